package frame_test

import (
	"bytes"
	"encoding/binary"
	"fmt"
	"hash/crc32"
	"math"
	"math/rand"
	"testing"

	"cutover/api"
	"cutover/frame"
)

// record works a record out by the words of 3.1 by way of the library, also
// one that Lay must refuse, with length and body apart.
func record(kind byte, length uint32, body []byte) []byte {
	front := binary.BigEndian.AppendUint32([]byte{kind}, length)
	sum := crc32.ChecksumIEEE(append(bytes.Clone(front), body...))
	return append(binary.BigEndian.AppendUint32(front, sum), body...)
}

// taken is what Next answers.
type taken struct {
	kind int
	body string
	size int
	e    api.Errno
}

// String tells no more of a body than a reader needs.
func (n taken) String() string {
	return fmt.Sprintf("kind %d, %d bytes (%.20q), size %d, error %d", n.kind, len(n.body), n.body, n.size, n.e)
}

// model is Next by the words of 3.1.
func model(b []byte) taken {
	if len(b) < 9 {
		return taken{e: api.ErrShort}
	}
	kind, length := b[0], binary.BigEndian.Uint32(b[1:])
	if kind == 0 || length > api.MaxCommit {
		return taken{e: api.ErrForm}
	}
	size := 9 + int(length)
	if len(b) < size {
		return taken{e: api.ErrShort}
	}
	if !bytes.Equal(record(kind, length, b[9:size]), b[:size]) {
		return taken{e: api.ErrSum}
	}
	return taken{int(kind), string(b[9:size]), size, api.OK}
}

// next answers f's Next of b as one value.
func next(f *frame.Framer, b []byte) taken {
	kind, body, size, e := f.Next(b)
	return taken{kind, string(body), size, e}
}

// mustNext holds Next of b to want, and want to the model.
func mustNext(t *testing.T, name string, b []byte, want taken) {
	t.Helper()
	if m := model(b); m != want {
		t.Fatalf("%s: the test is wrong: %v, and by the model %v", name, want, m)
	}
	if got := next(frame.New(), b); got != want {
		t.Errorf("%s: %v, not %v", name, got, want)
	}
}

// refused is what Next answers beside an error.
func refused(e api.Errno) taken { return taken{e: e} }

// filled answers n bytes that are not all the same.
func filled(n int) []byte {
	b := make([]byte, n)
	for i := range b {
		b[i] = byte(i*7 + i>>8)
	}
	return b
}

// mustLay answers what f lays, which must be OK.
func mustLay(t *testing.T, f *frame.Framer, kind int, body []byte) []byte {
	t.Helper()
	b, e := f.Lay(kind, body)
	if e != api.OK {
		t.Fatalf("Lay(%d) of %d bytes: error %d", kind, len(body), e)
	}
	return b
}

// lengths are those at which a byte of the length turns, up to the greatest.
var lengths = []int{
	0, 1, 2, 3, 255, 256, 257, 65535, 65536, 65537,
	api.MaxCommit - 1, api.MaxCommit,
}

func TestExample(t *testing.T) {
	mustNext(t, "Next of nil", nil, refused(api.ErrShort))
	mustNext(t, "Next of no bytes", []byte{}, refused(api.ErrShort))
}

// 3.1: a record whose bytes are known.
func TestLayIsTheseBytes(t *testing.T) {
	got := mustLay(t, frame.New(), 1, []byte("abc"))
	want := []byte{1, 0, 0, 0, 3, 0x71, 0x58, 0xe8, 0xc9, 'a', 'b', 'c'}
	if !bytes.Equal(got, want) {
		t.Errorf("% x, not % x", got, want)
	}
}

// 3.1: the kind, the length, the sum, the body; and Next takes them again.
func TestLayAndNext(t *testing.T) {
	f := frame.New()
	for _, n := range lengths {
		for _, kind := range []int{1, 2, 127, 128, 254, 255} {
			body := filled(n)
			b := mustLay(t, f, kind, body)
			if !bytes.Equal(b, record(byte(kind), uint32(n), body)) {
				t.Errorf("Lay(%d) of %d bytes: % x ..", kind, n, b[:9])
			}
			if len(b) != frame.Size(n) {
				t.Errorf("Lay(%d) of %d bytes: %d, and by Size %d", kind, n, len(b), frame.Size(n))
			}
			if got := next(f, b); got != (taken{kind, string(body), len(b), api.OK}) {
				t.Errorf("Next of kind %d and %d bytes: %v", kind, n, got)
			}
		}
	}
}

// 3.1: each kind from 1 to 255, and no other.
func TestKinds(t *testing.T) {
	f := frame.New()
	for kind := -300; kind <= 600; kind++ {
		b, e := f.Lay(kind, []byte{4})
		if kind < 1 || kind > 255 {
			if e != api.ErrArg || len(b) != 0 {
				t.Errorf("Lay(%d): % x, error %d", kind, b, e)
			}
			continue
		}
		if got := next(f, b); e != api.OK || got != (taken{kind, "\x04", 10, api.OK}) {
			t.Errorf("Lay(%d): error %d, then Next %v", kind, e, got)
		}
	}
}

// 3.1: what Lay refuses.
func TestLayRefuses(t *testing.T) {
	f := frame.New()
	for _, c := range []struct{ kind, n int }{
		{0, 0}, {-1, 0}, {256, 0}, {257, 3}, {math.MinInt, 3}, {math.MaxInt, 3},
		{1<<32 + 1, 0}, {0, api.MaxCommit}, {256, api.MaxCommit},
		{1, api.MaxCommit + 1}, {255, api.MaxCommit + 1}, {7, 2 * api.MaxCommit},
		{0, api.MaxCommit + 1},
	} {
		if b, e := f.Lay(c.kind, make([]byte, c.n)); e != api.ErrArg || len(b) != 0 {
			t.Errorf("Lay(%d) of %d bytes: %d bytes, error %d", c.kind, c.n, len(b), e)
		}
	}
}

// 3.1: nine and n.
func TestSize(t *testing.T) {
	for n := range 1000 {
		if got := frame.Size(n); got != 9+n {
			t.Errorf("Size(%d): %d", n, got)
		}
	}
	for _, n := range []int{-1, -9, -10, api.MaxCommit, api.MaxCommit + 1, math.MaxInt32} {
		if got := frame.Size(n); got != 9+n {
			t.Errorf("Size(%d): %d", n, got)
		}
	}
}

// 3.1: one record behind the other, and what stands behind a record is not
// looked at.
func TestRecordsBehindOneAnother(t *testing.T) {
	f := frame.New()
	var all []byte
	for i := range 300 {
		all = append(all, mustLay(t, f, i%255+1, filled(i*i%700))...)
	}
	all = append(all, 0, 1, 2)
	rest := all
	for i := range 300 {
		body := filled(i * i % 700)
		got := next(f, rest)
		if got != (taken{i%255 + 1, string(body), 9 + len(body), api.OK}) {
			t.Fatalf("record %d: %v", i, got)
		}
		rest = rest[got.size:]
	}
	if got := next(f, rest); got != refused(api.ErrShort) || len(rest) != 3 {
		t.Errorf("behind the last one: %v of %d bytes", got, len(rest))
	}
}

// 3.1: what stands behind a record may be wrong in any way.
func TestNextOfWhatIsBehind(t *testing.T) {
	b := record(5, 2, []byte("hi"))
	want := taken{5, "hi", 11, api.OK}
	for name, tail := range map[string][]byte{
		"one byte":        {0},
		"kind 0":          make([]byte, 9),
		"all ones":        bytes.Repeat([]byte{255}, 40),
		"a wrong sum":     {1, 0, 0, 0, 0, 1, 2, 3, 4},
		"the same again":  b,
		"the body's rest": []byte(" there"),
	} {
		mustNext(t, name, append(bytes.Clone(b), tail...), want)
	}
}

// 3.1: a record that is cut anywhere is ErrShort, of the first nine bytes,
// too; what stands in the spare room does not count.
func TestNextOfCutRecords(t *testing.T) {
	for _, body := range [][]byte{nil, {0}, []byte("abc"), filled(300)} {
		b := record(9, uint32(len(body)), body)
		for n := range b {
			mustNext(t, "cut, with the rest in spare room", b[:n], refused(api.ErrShort))
			mustNext(t, "cut", bytes.Clone(b[:n]), refused(api.ErrShort))
		}
	}
	b := record(9, api.MaxCommit, filled(api.MaxCommit))
	for _, n := range []int{9, 10, len(b) - 2, len(b) - 1} {
		mustNext(t, "the greatest one, cut", b[:n], refused(api.ErrShort))
	}
}

// 3.1: a kind of 0 and a length of more than MaxCommit are ErrForm, though
// all of the bytes are there and the sum is right.
func TestNextOfWrongForms(t *testing.T) {
	long := filled(api.MaxCommit + 1)
	mustNext(t, "kind 0", record(0, 3, []byte("abc")), refused(api.ErrForm))
	mustNext(t, "kind 0 of none", record(0, 0, nil), refused(api.ErrForm))
	mustNext(t, "MaxCommit and one", record(1, api.MaxCommit+1, long), refused(api.ErrForm))
	mustNext(t, "both", record(0, api.MaxCommit+1, long), refused(api.ErrForm))
	mustNext(t, "MaxCommit", record(1, api.MaxCommit, long[1:]), taken{1, string(long[1:]), api.MaxCommit + 9, api.OK})
}

// 3.1: a sum that is another one, by any bit of it, is ErrSum; so is a body
// or a kind that is another one.
func TestNextOfWrongSums(t *testing.T) {
	b := record(3, 20, filled(20))
	for i := range 8 * len(b) {
		if at := i / 8; at >= 1 && at < 5 {
			continue
		}
		x := bytes.Clone(b)
		x[i/8] ^= 1 << (i % 8)
		mustNext(t, "a bit turned", x, refused(api.ErrSum))
	}
	shorter := bytes.Clone(b)
	shorter[4] = 19
	mustNext(t, "a shorter length", shorter, refused(api.ErrSum))
	longer := append(bytes.Clone(b), 0)
	longer[4] = 21
	mustNext(t, "a longer length", longer, refused(api.ErrSum))
}

// 3.1: the sum covers the five bytes and the body: not the body alone, not
// itself as nothing, and it stands the highest byte first.
func TestNextOfOtherSums(t *testing.T) {
	body := []byte("abc")
	front := []byte{1, 0, 0, 0, 3}
	for name, covered := range map[string][]byte{
		"the body alone":        body,
		"the front alone":       front,
		"the body, the front":   append(bytes.Clone(body), front...),
		"front, zeros and body": append(append(bytes.Clone(front), 0, 0, 0, 0), body...),
		"nothing":               nil,
	} {
		sum := crc32.ChecksumIEEE(covered)
		b := append(binary.BigEndian.AppendUint32(bytes.Clone(front), sum), body...)
		mustNext(t, name, b, refused(api.ErrSum))
	}
	lowest := record(1, 3, body)
	lowest[5], lowest[6], lowest[7], lowest[8] = lowest[8], lowest[7], lowest[6], lowest[5]
	mustNext(t, "the lowest first", lowest, refused(api.ErrSum))
}

// 3.1: the order: ErrShort of the nine bytes; ErrForm; ErrShort; ErrSum.
func TestNextNamesTheFirstError(t *testing.T) {
	for _, c := range []struct {
		name string
		b    []byte
		want api.Errno
	}{
		{"eight bytes of kind 0", make([]byte, 8), api.ErrShort},
		{"eight bytes of too long a body", bytes.Repeat([]byte{255}, 8), api.ErrShort},
		{"kind 0, and cut", []byte{0, 0, 0, 0, 1, 0, 0, 0, 0}, api.ErrForm},
		{"kind 0, and a wrong sum", []byte{0, 0, 0, 0, 0, 9, 9, 9, 9}, api.ErrForm},
		{"a length of all ones, and cut", []byte{1, 255, 255, 255, 255, 0, 0, 0, 0}, api.ErrForm},
		{"the highest bit of the length", []byte{1, 128, 0, 0, 0, 0, 0, 0, 0}, api.ErrForm},
		{"MaxCommit and one, and cut", []byte{1, 0, 16, 0, 1, 0, 0, 0, 0}, api.ErrForm},
		{"MaxCommit, and cut", []byte{1, 0, 16, 0, 0, 0, 0, 0, 0}, api.ErrShort},
		{"a wrong sum, and cut", []byte{1, 0, 0, 0, 2, 9, 9, 9, 9, 7}, api.ErrShort},
		{"a wrong sum", []byte{1, 0, 0, 0, 1, 9, 9, 9, 9, 7}, api.ErrSum},
		{"a wrong sum of no body", []byte{1, 0, 0, 0, 0, 9, 9, 9, 9}, api.ErrSum},
	} {
		mustNext(t, c.name, c.b, refused(c.want))
	}
}

// 3.1: whatever the bytes are, Next answers as the model.
func TestNextOfAnyBytes(t *testing.T) {
	pick := rand.New(rand.NewSource(3))
	for range 20000 {
		body := filled(pick.Intn(40))
		b := record(byte(pick.Intn(4)), uint32(len(body)), body)
		for range pick.Intn(3) {
			b[pick.Intn(len(b))] = byte(pick.Intn(256))
		}
		b = append(b, filled(pick.Intn(12))...)
		b = b[:pick.Intn(len(b)+1)]
		if got, want := next(frame.New(), b), model(b); got != want {
			t.Fatalf("% x: %v, not %v", b, got, want)
		}
	}
}

// room answers a list of b with spare room behind it, and the whole of it.
func room(b ...byte) (list, whole []byte) {
	whole = append(bytes.Clone(b), 0xee, 0xee, 0xee, 0xee)
	return whole[:len(b)], whole
}

// scribble writes over all of a list's memory, spare room included.
func scribble(b []byte) {
	b = b[:cap(b)]
	for i := range b {
		b[i] = 0xdd
	}
}

// R2: Lay changes nothing of what it is handed, and its answer is new memory.
func TestLayLeavesArgumentsAlone(t *testing.T) {
	f := frame.New()
	for _, body := range [][]byte{{}, {1, 2, 3}} {
		list, whole := room(body...)
		was := bytes.Clone(whole)
		first := mustLay(t, f, 4, list)
		second := mustLay(t, f, 4, list)
		scribble(first)
		if !bytes.Equal(whole, was) {
			t.Errorf("what was handed in is % x", whole)
		}
		clear(whole)
		if want := record(4, uint32(len(body)), body); !bytes.Equal(second, want) {
			t.Errorf("% x, not % x", second, want)
		}
	}
}

// R2: so does Next, whether it answers OK or an error.
func TestNextLeavesArgumentsAlone(t *testing.T) {
	f := frame.New()
	for _, b := range [][]byte{
		record(4, 3, []byte{1, 2, 3}),
		record(4, 0, nil),
		record(0, 0, nil),
		{4, 0, 0, 0, 1, 9, 9, 9, 9, 9},
		{4, 0, 0, 0, 5, 9, 9, 9, 9, 9},
		{4},
	} {
		list, whole := room(b...)
		was := bytes.Clone(whole)
		_, first, _, _ := f.Next(list)
		_, second, _, _ := f.Next(list)
		scribble(first)
		if !bytes.Equal(whole, was) {
			t.Errorf("what was handed in is % x, not % x", whole, was)
		}
		clear(whole)
		if string(second) != model(b).body {
			t.Errorf("a body of % x is % x", b, second)
		}
	}
}

// R3, R4: an answer hangs on its arguments, not on what was laid, taken or
// refused ahead of it.
func TestCallsAreApart(t *testing.T) {
	f := frame.New()
	want := record(2, 3, []byte("abc"))
	for _, ahead := range []func(){
		func() {},
		func() { f.Lay(9, []byte("other")) },
		func() { f.Lay(0, []byte("other")) },
		func() { f.Lay(1, make([]byte, api.MaxCommit+1)) },
		func() { f.Next(record(9, 5, []byte("other"))) },
		func() { f.Next(want[:10]) },
		func() { f.Next(make([]byte, 9)) },
		func() { f.Next([]byte{1, 0, 0, 0, 0, 9, 9, 9, 9}) },
	} {
		ahead()
		if got := mustLay(t, f, 2, []byte("abc")); !bytes.Equal(got, want) {
			t.Errorf("% x, not % x", got, want)
		}
		ahead()
		if got := next(f, want); got != (taken{2, "abc", 12, api.OK}) {
			t.Errorf("Next: %v", got)
		}
	}
}

// R7: what one Framer laid another one takes.
func TestObjectsAreApart(t *testing.T) {
	one, two := frame.New(), frame.New()
	b := mustLay(t, one, 8, []byte("x"))
	if got := next(two, b); got != (taken{8, "x", 10, api.OK}) {
		t.Errorf("Next: %v", got)
	}
	if !bytes.Equal(mustLay(t, two, 8, []byte("x")), b) {
		t.Error("two Framers lay one record in two ways")
	}
}

// R1: none panics, on a nil object neither.
func TestNilObjectsDoNotPanic(t *testing.T) {
	var f *frame.Framer
	if b, e := f.Lay(1, nil); len(b) != 0 || e != api.ErrArg {
		t.Errorf("Lay: % x, error %d", b, e)
	}
	if got := next(f, record(1, 0, nil)); got != refused(api.ErrArg) {
		t.Errorf("Next: %v", got)
	}
}
