package crc_test

import (
	"bytes"
	"hash/crc32"
	"strings"
	"sync"
	"testing"

	"cutover/crc"
)

// bitwise works the sum out by the words of 2.1, without a table and without
// reflecting the polynomial: the bits of each byte go in lowest first, and the
// bits of what is left come out the other way round.
func bitwise(b []byte) uint32 {
	sum := ^uint32(0)
	for _, octet := range b {
		for i := range 8 {
			in := uint32(octet>>i) & 1
			out := sum >> 31
			sum <<= 1
			if in != out {
				sum ^= 0x04C11DB7
			}
		}
	}
	var reflected uint32
	for i := range 32 {
		reflected |= (sum >> i & 1) << (31 - i)
	}
	return ^reflected
}

// mustSum holds t's sum of b against the two other ways to it.
func mustSum(t *testing.T, table *crc.Table, b []byte) {
	t.Helper()
	got := table.Sum(b)
	if want := bitwise(b); got != want {
		t.Errorf("Sum of %d bytes: %08x, not %08x", len(b), got, want)
	}
	if want := crc32.ChecksumIEEE(b); got != want {
		t.Errorf("Sum of %d bytes: %08x, and by the library %08x", len(b), got, want)
	}
}

func TestExample(t *testing.T) {
	if got := crc.New().Sum([]byte("123456789")); got != 0xcbf43926 {
		t.Errorf("%08x, not cbf43926", got)
	}
}

// 2.1: sums that are known from elsewhere.
func TestKnownSums(t *testing.T) {
	table := crc.New()
	for _, c := range []struct {
		text string
		want uint32
	}{
		{"", 0},
		{"\x00", 0xd202ef8d},
		{"\xff", 0xff000000},
		{"\x00\x00\x00\x00", 0x2144df1c},
		{"\xff\xff\xff\xff", 0xffffffff},
		{"a", 0xe8b7be43},
		{"abc", 0x352441c2},
		{"The quick brown fox jumps over the lazy dog", 0x414fa339},
		{strings.Repeat("\x00", 32), 0x190a55ad},
		{strings.Repeat("\xff", 32), 0xff6cab0b},
	} {
		if got := table.Sum([]byte(c.text)); got != c.want {
			t.Errorf("%q: %08x, not %08x", c.text, got, c.want)
		}
	}
}

// 2.1: each of the 256 words is asked for, alone and behind another byte.
func TestEveryByte(t *testing.T) {
	table := crc.New()
	for i := range 256 {
		mustSum(t, table, []byte{byte(i)})
		mustSum(t, table, []byte{0x5a, byte(i)})
	}
}

// 2.1: lists of every small length, and of a great one.
func TestEveryLength(t *testing.T) {
	table := crc.New()
	var b []byte
	for i := range 600 {
		mustSum(t, table, b)
		b = append(b, byte(i*i+i/3))
	}
	mustSum(t, table, bytes.Repeat(b, 4000))
}

// 2.1: one bit that is turned, anywhere, turns the sum.
func TestEveryBitCounts(t *testing.T) {
	table := crc.New()
	b := []byte("runs of nodes, kept as events")
	whole := table.Sum(b)
	for i := range 8 * len(b) {
		b[i/8] ^= 1 << (i % 8)
		if table.Sum(b) == whole {
			t.Errorf("bit %d turned: still %08x", i, whole)
		}
		b[i/8] ^= 1 << (i % 8)
	}
}

// R4: a sum hangs on its bytes, not on those that were summed ahead of it.
func TestSumsAreApart(t *testing.T) {
	table := crc.New()
	first := table.Sum([]byte("123456789"))
	table.Sum([]byte{1, 2, 3})
	table.Sum(nil)
	if again := table.Sum([]byte("123456789")); again != first {
		t.Errorf("%08x, then %08x", first, again)
	}
}

// 2.1: nothing is made ahead of the first Sum, though Made is asked for, and
// once from then on.
func TestMade(t *testing.T) {
	table := crc.New()
	for range 3 {
		if n := table.Made(); n != 0 {
			t.Errorf("ahead of the first Sum: made %d times", n)
		}
	}
	for i := range 300 {
		table.Sum([]byte{byte(i)})
		if n := table.Made(); n != 1 {
			t.Errorf("behind %d sums: made %d times", i+1, n)
		}
	}
}

// 2.1: a first Sum of nothing is a first Sum.
func TestMadeBySumOfNothing(t *testing.T) {
	for name, b := range map[string][]byte{"nil": nil, "empty": {}} {
		table := crc.New()
		if sum, n := table.Sum(b), table.Made(); sum != 0 || n != 1 {
			t.Errorf("%s: sum %08x, made %d times", name, sum, n)
		}
	}
}

// atOnce runs work in many goroutines that are let go together.
func atOnce(many int, work func()) {
	var all sync.WaitGroup
	gate := make(chan struct{})
	for range many {
		all.Add(1)
		go func() {
			defer all.Done()
			<-gate
			work()
		}()
	}
	close(gate)
	all.Wait()
}

// 2.1, R7: whoever comes first, each goroutine's first sum is right, behind it
// the table is made, and at last it was made once.
func TestMadeOnceByManyAtOnce(t *testing.T) {
	text := []byte("123456789")
	for range 200 {
		table := crc.New()
		atOnce(32, func() {
			if n := table.Made(); n != 0 && n != 1 {
				t.Errorf("made %d times", n)
			}
			if sum := table.Sum(text); sum != 0xcbf43926 {
				t.Errorf("a first sum: %08x", sum)
			}
			if n := table.Made(); n != 1 {
				t.Errorf("behind a sum: made %d times", n)
			}
		})
		if n := table.Made(); n != 1 {
			t.Fatalf("at last: made %d times", n)
		}
	}
}

// R7: a table that one object made is not another one's.
func TestObjectsAreApart(t *testing.T) {
	one, two := crc.New(), crc.New()
	one.Sum([]byte("a"))
	if one.Made() != 1 || two.Made() != 0 || crc.New().Made() != 0 {
		t.Errorf("made %d, %d, %d times", one.Made(), two.Made(), crc.New().Made())
	}
	two.Sum([]byte("a"))
	if one.Made() != 1 || two.Made() != 1 {
		t.Errorf("at last: made %d, %d times", one.Made(), two.Made())
	}
}

// R2: what is handed in is not changed, not kept, and its spare room not read.
func TestArgumentsAreLeftAlone(t *testing.T) {
	whole := []byte("123456789 and more")
	was := bytes.Clone(whole)
	table := crc.New()
	if sum := table.Sum(whole[:9]); sum != 0xcbf43926 {
		t.Errorf("with spare room: %08x", sum)
	}
	if !bytes.Equal(whole, was) {
		t.Errorf("what was handed in is %q", whole)
	}
	clear(whole)
	if sum := table.Sum([]byte("abc")); sum != 0x352441c2 {
		t.Errorf("what was handed in was kept: %08x", sum)
	}
}

// R1: none panics, on a nil object neither.
func TestNilObjectsDoNotPanic(t *testing.T) {
	var table *crc.Table
	if table.Sum([]byte("a")) != 0 || table.Made() != 0 {
		t.Error("a nil Table has something")
	}
}
