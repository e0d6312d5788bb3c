package octet_test

import (
	"bytes"
	"math"
	"math/big"
	"strings"
	"testing"

	"cutover/octet"
)

// numbers are the ones at which a byte, a sign or a modulus turns.
var numbers = []int{
	0, 1, -1, 127, 128, 255, 256, -128, -256, 258, 32767, 32768, 65535, 65536,
	65537, -65535, -65536, 1<<24 + 3, math.MaxInt32, math.MinInt32,
	math.MaxUint32, 1 << 40, 0x0102030405060708, -0x0102030405060708,
	math.MaxInt64 - 1, math.MaxInt64, math.MinInt64, math.MinInt64 + 1,
}

// modulo works out n modulo 2^(8*size) in size bytes by way of package big.
func modulo(n, size int) []byte {
	modulus := new(big.Int).Lsh(big.NewInt(1), uint(8*size))
	rest := new(big.Int).Mod(big.NewInt(int64(n)), modulus)
	return rest.FillBytes(make([]byte, size))
}

// sizes are the calls that lay and take a number, with how many bytes it has.
var sizes = []struct {
	name string
	size int
	lay  func(w *octet.Writer, n int)
	take func(r *octet.Reader) int
}{
	{"U8", 1, (*octet.Writer).U8, (*octet.Reader).U8},
	{"U16", 2, (*octet.Writer).U16, (*octet.Reader).U16},
	{"U64", 8, (*octet.Writer).U64, (*octet.Reader).U64},
}

// laid answers what fill lays.
func laid(fill func(w *octet.Writer)) []byte {
	w := octet.NewWriter()
	fill(w)
	return w.Bytes()
}

func TestExample(t *testing.T) {
	got := laid(func(w *octet.Writer) {
		w.U16(258)
		w.Text("ab")
	})
	if want := []byte{1, 2, 0, 2, 0x61, 0x62}; !bytes.Equal(got, want) {
		t.Errorf("% x, not % x", got, want)
	}
}

// 1.1: at first none.
func TestWriterBeginsEmpty(t *testing.T) {
	if b := octet.NewWriter().Bytes(); len(b) != 0 {
		t.Errorf("a new Writer has % x", b)
	}
}

// 1.1: numbers are laid modulo 2^8, 2^16, 2^64, the highest byte first.
func TestWriterNumbers(t *testing.T) {
	for _, s := range sizes {
		for _, n := range numbers {
			got := laid(func(w *octet.Writer) { s.lay(w, n) })
			if want := modulo(n, s.size); !bytes.Equal(got, want) {
				t.Errorf("%s(%d): % x, not % x", s.name, n, got, want)
			}
		}
	}
}

// 1.1: Raw lays b, and nothing but b.
func TestWriterRaw(t *testing.T) {
	for _, b := range [][]byte{nil, {}, {0}, {0, 255, 7}, bytes.Repeat([]byte{3}, 70000)} {
		if got := laid(func(w *octet.Writer) { w.Raw(b) }); !bytes.Equal(got, b) {
			t.Errorf("Raw of %d bytes lays %d", len(b), len(got))
		}
	}
}

// 1.1: Short and Text lay a length and so many bytes, up to 65535, and beyond
// that nothing.
func TestWriterShortAndText(t *testing.T) {
	for _, n := range []int{0, 1, 2, 255, 256, 65534, 65535, 65536, 65537, 1 << 17, 1<<17 + 1} {
		b := bytes.Repeat([]byte{'x'}, n)
		want := append([]byte{byte(n >> 8), byte(n)}, b...)
		if n > 65535 {
			want = nil
		}
		for name, call := range map[string]func(w *octet.Writer) bool{
			"Short": func(w *octet.Writer) bool { return w.Short(b) },
			"Text":  func(w *octet.Writer) bool { return w.Text(string(b)) },
		} {
			w := octet.NewWriter()
			w.U8(9)
			if ok := call(w); ok != (n <= 65535) {
				t.Errorf("%s of %d bytes: %v", name, n, ok)
			}
			if got := w.Bytes(); !bytes.Equal(got, append([]byte{9}, want...)) {
				t.Errorf("%s of %d bytes lays %d", name, n, len(got)-1)
			}
		}
	}
}

// 1.1: a text is bytes: its length is counted in these, and none is mended.
func TestWriterTextIsBytes(t *testing.T) {
	got := laid(func(w *octet.Writer) {
		if !w.Text("é\xff\x00") {
			t.Error("Text is false")
		}
	})
	if want := []byte{0, 4, 0xc3, 0xa9, 0xff, 0}; !bytes.Equal(got, want) {
		t.Errorf("% x, not % x", got, want)
	}
	if octet.NewWriter().Text(strings.Repeat("é", 40000)) {
		t.Error("Text of 80000 bytes, in 40000 runes, is true")
	}
}

// 1.1: Bytes answers all so far, each time, and takes nothing away.
func TestWriterBytesAreAllSoFar(t *testing.T) {
	w := octet.NewWriter()
	var want []byte
	for i := range 1000 {
		w.U8(i)
		want = append(want, byte(i))
		if got := w.Bytes(); !bytes.Equal(got, want) {
			t.Fatalf("behind %d numbers: % x", i+1, got)
		}
	}
}

// 1.2: U8 and U16 are from 0 on, U64 has a sign.
func TestReaderNumbers(t *testing.T) {
	for _, s := range sizes {
		for _, n := range numbers {
			b := modulo(n, s.size)
			want := n
			if s.size < 8 {
				want = int(new(big.Int).SetBytes(b).Int64())
			}
			r := octet.NewReader(b)
			if got := s.take(r); got != want || r.Lack() || r.Left() != 0 {
				t.Errorf("%s of % x: %d, not %d (%v, %d left)", s.name, b, got, want, r.Lack(), r.Left())
			}
		}
	}
}

// 1.2: what was laid is taken from the front, and Left falls by just that.
func TestReaderTakesFromTheFront(t *testing.T) {
	r := octet.NewReader(laid(func(w *octet.Writer) {
		w.U8(200)
		w.U16(40000)
		w.U64(-5)
		w.Raw([]byte{1, 2, 3})
		w.Short([]byte{4, 5})
		w.Text("h\xffi")
		w.Short(nil)
		w.Text("")
		w.U8(6)
	}))
	steps := []struct {
		name string
		ok   func() bool
		left int
	}{
		{"nothing", func() bool { return true }, 28},
		{"U8", func() bool { return r.U8() == 200 }, 27},
		{"U16", func() bool { return r.U16() == 40000 }, 25},
		{"U64", func() bool { return r.U64() == -5 }, 17},
		{"Raw(0)", func() bool { return len(r.Raw(0)) == 0 }, 17},
		{"Raw(3)", func() bool { return bytes.Equal(r.Raw(3), []byte{1, 2, 3}) }, 14},
		{"Short", func() bool { return bytes.Equal(r.Short(), []byte{4, 5}) }, 10},
		{"Text", func() bool { return r.Text() == "h\xffi" }, 5},
		{"Short of none", func() bool { return len(r.Short()) == 0 }, 3},
		{"Text of none", func() bool { return r.Text() == "" }, 1},
		{"Raw of all", func() bool { return bytes.Equal(r.Raw(1), []byte{6}) }, 0},
		{"Raw(0) at the end", func() bool { return len(r.Raw(0)) == 0 }, 0},
	}
	for _, s := range steps {
		if !s.ok() || r.Left() != s.left || r.Lack() {
			t.Errorf("%s: not what was laid, or %d left and not %d, or it lacks: %v", s.name, r.Left(), s.left, r.Lack())
		}
	}
}

// 1.2: the greatest length goes there and back.
func TestReaderTakesTheGreatestShort(t *testing.T) {
	long := bytes.Repeat([]byte("abcde"), 13107)
	r := octet.NewReader(laid(func(w *octet.Writer) {
		w.Short(long)
		w.Text(string(long))
	}))
	if !bytes.Equal(r.Short(), long) || r.Text() != string(long) || r.Lack() || r.Left() != 0 {
		t.Error("65535 bytes do not come back")
	}
}

// takes are all the calls that take, each told as the count of what it
// answers, or the number.
var takes = []struct {
	name string
	take func(r *octet.Reader) int
}{
	{"U8", (*octet.Reader).U8},
	{"U16", (*octet.Reader).U16},
	{"U64", (*octet.Reader).U64},
	{"Raw(0)", func(r *octet.Reader) int { return len(r.Raw(0)) }},
	{"Raw(1)", func(r *octet.Reader) int { return len(r.Raw(1)) }},
	{"Raw(-1)", func(r *octet.Reader) int { return len(r.Raw(-1)) }},
	{"Short", func(r *octet.Reader) int { return len(r.Short()) }},
	{"Text", func(r *octet.Reader) int { return len(r.Text()) }},
}

// mustLack holds a Reader to the last clause of 1.2: whatever is asked, it
// has nothing, for good.
func mustLack(t *testing.T, name string, r *octet.Reader) {
	t.Helper()
	for _, s := range takes {
		if !r.Lack() || r.Left() != 0 {
			t.Errorf("%s, ahead of %s: Lack %v, Left %d", name, s.name, r.Lack(), r.Left())
		}
		if n := s.take(r); n != 0 {
			t.Errorf("%s, then %s: %d", name, s.name, n)
		}
	}
	if !r.Lack() || r.Left() != 0 {
		t.Errorf("%s, at last: Lack %v, Left %d", name, r.Lack(), r.Left())
	}
}

// 1.2: what goes beyond the end is 0 or none, and from then on all is,
// though bytes were left.
func TestReaderLacks(t *testing.T) {
	raw := func(n int) func(r *octet.Reader) int {
		return func(r *octet.Reader) int { return len(r.Raw(n)) }
	}
	short := func(r *octet.Reader) int { return len(r.Short()) }
	text := func(r *octet.Reader) int { return len(r.Text()) }
	for _, c := range []struct {
		name string
		b    []byte
		take func(r *octet.Reader) int
	}{
		{"U8 of none", nil, (*octet.Reader).U8},
		{"U16 of none", nil, (*octet.Reader).U16},
		{"U16 of one", []byte{9}, (*octet.Reader).U16},
		{"U64 of none", nil, (*octet.Reader).U64},
		{"U64 of seven", []byte{1, 2, 3, 4, 5, 6, 7}, (*octet.Reader).U64},
		{"Raw(1) of none", nil, raw(1)},
		{"Raw(4) of three", []byte{1, 2, 3}, raw(4)},
		{"Raw of far too many", []byte{1, 2, 3}, raw(math.MaxInt)},
		{"Raw(-1)", []byte{1, 2, 3}, raw(-1)},
		{"Raw(-1) of none", nil, raw(-1)},
		{"Raw of the least count", []byte{1, 2, 3}, raw(math.MinInt)},
		{"Short of none", nil, short},
		{"Short of half a length", []byte{0}, short},
		{"Short of one too few", []byte{0, 3, 1, 2}, short},
		{"Short of a length alone", []byte{255, 255}, short},
		{"Text of none", nil, text},
		{"Text of half a length", []byte{1}, text},
		{"Text of one too few", []byte{0, 3, 'a', 'b'}, text},
		{"Text of a length alone", []byte{0, 1}, text},
	} {
		r := octet.NewReader(c.b)
		if r.Lack() || r.Left() != len(c.b) {
			t.Errorf("%s: ahead of it Lack %v, Left %d", c.name, r.Lack(), r.Left())
		}
		if n := c.take(r); n != 0 {
			t.Errorf("%s: %d", c.name, n)
		}
		mustLack(t, c.name, r)
	}
}

// room answers a list of b with spare room behind it, and the whole of it.
func room(b ...byte) (list, whole []byte) {
	whole = append(append([]byte{}, b...), 0xee, 0xee, 0xee, 0xee)
	return whole[:len(b)], whole
}

// R2: a Writer neither changes nor keeps what it is handed.
func TestWriterLeavesArgumentsAlone(t *testing.T) {
	list, whole := room(1, 2, 3)
	was := append([]byte{}, whole...)
	w := octet.NewWriter()
	w.Raw(list)
	w.Short(list)
	w.U64(-1)
	if !bytes.Equal(whole, was) {
		t.Errorf("what was handed in is % x", whole)
	}
	want := w.Bytes()
	clear(whole)
	if got := w.Bytes(); !bytes.Equal(got, want) {
		t.Errorf("the Writer kept it: % x, not % x", got, want)
	}
}

// R2: what Bytes answers is new memory, its spare room too.
func TestWriterAnswersAreNewMemory(t *testing.T) {
	w := octet.NewWriter()
	w.Raw([]byte{1, 2, 3})
	first := w.Bytes()
	second := w.Bytes()
	w.U8(4)
	scribble(first)
	if !bytes.Equal(second, []byte{1, 2, 3}) || !bytes.Equal(w.Bytes(), []byte{1, 2, 3, 4}) {
		t.Errorf("% x and % x", second, w.Bytes())
	}
}

// scribble writes over all of a list's memory, spare room included.
func scribble(b []byte) {
	b = b[:cap(b)]
	for i := range b {
		b[i] = 0xdd
	}
}

// R2: a Reader neither changes nor keeps what it is handed.
func TestReaderLeavesArgumentsAlone(t *testing.T) {
	list, whole := room(1, 0, 1, 2, 3)
	was := append([]byte{}, whole...)
	r := octet.NewReader(list)
	scribble(r.Raw(1))
	scribble(r.Short())
	if !bytes.Equal(whole, was) {
		t.Errorf("what was handed in is % x", whole)
	}
	clear(whole)
	if n := r.U8(); n != 3 {
		t.Errorf("the Reader kept it: %d, not 3", n)
	}
	if r.U8(); !r.Lack() {
		t.Error("the Reader took of the spare room")
	}
}

// R2: what Raw and Short answer is new memory, spare room too.
func TestReaderAnswersAreNewMemory(t *testing.T) {
	r := octet.NewReader([]byte{1, 2, 0, 2, 3, 4, 5, 0, 1, 6, 0, 1, 'a'})
	raw := r.Raw(2)
	scribble(raw)
	short := r.Short()
	scribble(short)
	last := r.Raw(1)
	if !bytes.Equal(last, []byte{5}) || !bytes.Equal(raw, []byte{0xdd, 0xdd}) {
		t.Errorf("% x and % x", last, raw)
	}
	if again := r.Short(); !bytes.Equal(again, []byte{6}) || !bytes.Equal(short, []byte{0xdd, 0xdd}) || r.Text() != "a" {
		t.Errorf("% x and % x", again, short)
	}
}

// R7: objects know nothing of one another.
func TestObjectsAreApart(t *testing.T) {
	one, two := octet.NewWriter(), octet.NewWriter()
	one.U8(1)
	two.U16(2)
	if !bytes.Equal(one.Bytes(), []byte{1}) || !bytes.Equal(two.Bytes(), []byte{0, 2}) {
		t.Error("two Writers share bytes")
	}
	b := []byte{7, 8}
	left, right := octet.NewReader(b), octet.NewReader(b)
	if left.U64(); !left.Lack() || right.Lack() || right.Left() != 2 || right.U8() != 7 {
		t.Error("two Readers share bytes")
	}
}

// R1: none panics, on a nil object neither.
func TestNilObjectsDoNotPanic(t *testing.T) {
	var w *octet.Writer
	w.U8(1)
	w.U16(1)
	w.U64(1)
	w.Raw([]byte{1})
	if w.Short([]byte{1}) || w.Text("a") || len(w.Bytes()) != 0 {
		t.Error("a nil Writer took something")
	}
	mustLack(t, "nil", nil)
}
