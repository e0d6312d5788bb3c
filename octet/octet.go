// Package octet: numbers as bytes, the highest first: see DOC.md, chapter 1.
package octet

// maxShort is the greatest length that two bytes can tell.
const maxShort = 1<<16 - 1

// Writer lays numbers and bytes, one behind the other.
type Writer struct {
	laid []byte
}

// NewWriter answers a Writer that has no bytes yet.
func NewWriter() *Writer { return &Writer{} }

// U8 lays n modulo 2^8 in one byte.
func (w *Writer) U8(n int) { w.lay(n, 1) }

// U16 lays n modulo 2^16 in two bytes.
func (w *Writer) U16(n int) { w.lay(n, 2) }

// U64 lays n modulo 2^64 in eight bytes.
func (w *Writer) U64(n int) { w.lay(n, 8) }

// lay lays the lowest bytes of n, size of them, the highest first.
func (w *Writer) lay(n, size int) {
	for shift := 8 * (size - 1); shift >= 0; shift -= 8 {
		w.Raw([]byte{byte(n >> shift)})
	}
}

// Raw lays b as it is.
func (w *Writer) Raw(b []byte) {
	if w == nil {
		return
	}
	w.laid = append(w.laid, b...)
}

// Short lays b behind its length, if two bytes can tell that.
func (w *Writer) Short(b []byte) bool {
	if w == nil || len(b) > maxShort {
		return false
	}
	w.U16(len(b))
	w.Raw(b)
	return true
}

// Text lays the bytes of s as Short does.
func (w *Writer) Text(s string) bool { return w.Short([]byte(s)) }

// Bytes answers all that was laid so far.
func (w *Writer) Bytes() []byte {
	if w == nil {
		return nil
	}
	return copied(w.laid)
}

// Reader takes numbers and bytes from the front.
type Reader struct {
	rest []byte
	lack bool
}

// NewReader answers a Reader of the bytes that b has now.
func NewReader(b []byte) *Reader { return &Reader{rest: copied(b)} }

// U8 takes one byte as a number from 0 on.
func (r *Reader) U8() int { return r.number(1) }

// U16 takes two bytes as a number from 0 on.
func (r *Reader) U16() int { return r.number(2) }

// U64 takes eight bytes as a number with a sign.
func (r *Reader) U64() int { return r.number(8) }

// number leans on int's wrap-round: the eighth byte shifts the first one
// into the sign.
func (r *Reader) number(size int) int {
	n := 0
	for _, b := range r.take(size) {
		n = n<<8 | int(b)
	}
	return n
}

// Raw takes n bytes.
func (r *Reader) Raw(n int) []byte { return copied(r.take(n)) }

// Short takes a length and so many bytes. A length that lacks is 0, and what
// is taken behind it is none.
func (r *Reader) Short() []byte { return copied(r.take(r.U16())) }

// Text takes what Short takes as a text.
func (r *Reader) Text() string { return string(r.take(r.U16())) }

// Lack tells whether more was asked for than there was.
func (r *Reader) Lack() bool { return r == nil || r.lack }

// Left answers how many bytes can still be taken.
func (r *Reader) Left() int {
	if r == nil {
		return 0
	}
	return len(r.rest)
}

// take answers the first n bytes as a piece of what the Reader keeps: it must
// not leave the package. Where there are fewer, all is let go, so that every
// later answer is none.
func (r *Reader) take(n int) []byte {
	if r == nil {
		return nil
	}
	if n < 0 || n > len(r.rest) {
		r.rest, r.lack = nil, true
		return nil
	}
	front := r.rest[:n]
	r.rest = r.rest[n:]
	return front
}

// copied answers b in memory of its own, of which b's owner knows nothing.
func copied(b []byte) []byte { return append([]byte(nil), b...) }
