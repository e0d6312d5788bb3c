package version_test

import (
	"math"
	"testing"

	"cutover/api"
	"cutover/version"
)

// remainder works v modulo Increment out without Go's % of a number below 0:
// the last digit of v is counted up from 0, or down from Increment.
func remainder(v int) int {
	if v >= 0 {
		return v - v/api.Increment*api.Increment
	}
	down := v/api.Increment*api.Increment - v
	if down == 0 {
		return 0
	}
	return api.Increment - down
}

// right is 8.1's Right by its words.
func right(v int) bool {
	if v < 1 || v > api.MaxVersion {
		return false
	}
	owner := remainder(v)
	return owner >= 1 && owner <= api.MaxRegions
}

// next is 8.1's Next by its words: each number above v is asked, one by one.
func next(v, region int) (int, api.Errno) {
	if region < 1 || region > api.MaxRegions {
		return 0, api.ErrArg
	}
	if v != 0 && !right(v) {
		return 0, api.ErrArg
	}
	n := v + 1
	for remainder(n) != region {
		n++
	}
	if n > api.MaxVersion {
		return 0, api.ErrFull
	}
	return n, api.OK
}

// places are the beginnings of the spans that are gone through number by
// number: about 0, about powers of two and of ten, and about the last version.
func places() []int {
	l := []int{0, api.MaxVersion}
	for n := 1; n < api.MaxVersion; n *= 2 {
		l = append(l, n, -n)
	}
	for n := 10; n < api.MaxVersion; n *= 10 {
		l = append(l, n, -n)
	}
	return l
}

// edges are the numbers at which a sum or a remainder may go round.
func edges() []int {
	var l []int
	for i := range 3 * api.Increment {
		l = append(l, math.MaxInt-i, math.MinInt+i, math.MaxInt32-i, math.MinInt32+i)
	}
	return l
}

// numbers are all versions that the tests below ask for.
func numbers() []int {
	l := edges()
	for _, n := range places() {
		for i := -3 * api.Increment; i <= 3*api.Increment; i++ {
			l = append(l, n+i)
		}
	}
	return l
}

// regions are those that are, those about them, and ones far from them.
func regions() []int {
	l := edges()
	for i := -3 * api.Increment; i <= 3*api.Increment; i++ {
		l = append(l, i)
	}
	return l
}

func TestExamples(t *testing.T) {
	for _, c := range []struct{ v, region, want int }{
		{1, 2, 2},
		{12, 2, 22},
		{12, 1, 21},
	} {
		if got, e := version.Next(c.v, c.region); got != c.want || e != api.OK {
			t.Errorf("Next(%d, %d): %d %d, not %d", c.v, c.region, got, e, c.want)
		}
	}
}

// 8.1, Owner: numbers written out, those below 0 among them.
func TestOwner(t *testing.T) {
	for _, c := range []struct{ v, want int }{
		{0, 0}, {1, 1}, {7, 7}, {8, 8}, {9, 9}, {10, 0}, {11, 1}, {12, 2},
		{18, 8}, {19, 9}, {20, 0}, {1234, 4},
		{-1, 9}, {-2, 8}, {-9, 1}, {-10, 0}, {-11, 9}, {-12, 8}, {-20, 0},
		{1 << 40, 6}, {1<<40 + 3, 9}, {1<<40 + 4, 0}, {-1 << 40, 4},
		{math.MaxInt64, 7}, {math.MinInt64, 2},
	} {
		if got := version.Owner(c.v); got != c.want {
			t.Errorf("Owner(%d): %d, not %d", c.v, got, c.want)
		}
	}
}

// 8.1, Owner: it is from 0 on, and the same an Increment away.
func TestOwnerOfEvery(t *testing.T) {
	for _, v := range numbers() {
		got := version.Owner(v)
		if got != remainder(v) {
			t.Errorf("Owner(%d): %d, not %d", v, got, remainder(v))
		}
		if got < 0 || got >= api.Increment {
			t.Errorf("Owner(%d): %d is no remainder", v, got)
		}
		if v <= math.MaxInt-api.Increment && version.Owner(v+api.Increment) != got {
			t.Errorf("Owner(%d): %d, and another one Increment on", v, got)
		}
	}
}

// 8.1, Right: numbers written out: both bounds, and owners that are no region.
func TestRight(t *testing.T) {
	for _, c := range []struct {
		v    int
		want bool
	}{
		{0, false}, {1, true}, {8, true}, {9, false}, {10, false},
		{11, true}, {18, true}, {19, false}, {20, false}, {21, true},
		{-1, false}, {-2, false}, {-9, false}, {-10, false}, {-19, false},
		{api.MaxVersion - 7, false}, // its Owner would be 9
		{api.MaxVersion - 6, false}, // and this one's 0
		{api.MaxVersion - 5, true},
		{api.MaxVersion - 1, true},
		{api.MaxVersion, true},
		{api.MaxVersion + 1, false}, // Owner 7
		{api.MaxVersion + 2, false}, // Owner 8
		{api.MaxVersion + 5, false}, // Owner 1
		{math.MaxInt64, false},      // Owner 7
		{math.MinInt64, false},      // Owner 2
	} {
		if got := version.Right(c.v); got != c.want {
			t.Errorf("Right(%d): %t", c.v, got)
		}
	}
}

// 8.1, Right: by its words.
func TestRightOfEvery(t *testing.T) {
	for _, v := range numbers() {
		if got := version.Right(v); got != right(v) {
			t.Errorf("Right(%d): %t", v, got)
		}
	}
}

// 8.1, First: each region's number, and 0 of none.
func TestFirst(t *testing.T) {
	for _, region := range regions() {
		want := 0
		if region >= 1 && region <= api.MaxRegions {
			want = region
		}
		if got := version.First(region); got != want {
			t.Errorf("First(%d): %d, not %d", region, got, want)
		}
	}
}

// 8.1, First: it is a version of that region, and the one that is Next of 0.
func TestFirstIsNextOfNone(t *testing.T) {
	for region := 1; region <= api.MaxRegions; region++ {
		first := version.First(region)
		if !version.Right(first) || version.Owner(first) != region {
			t.Errorf("First(%d): %d is none of its versions", region, first)
		}
		if got, e := version.Next(0, region); got != first || e != api.OK {
			t.Errorf("Next(0, %d): %d %d, not %d", region, got, e, first)
		}
	}
}

// 8.1, Next: rows written out.
func TestNext(t *testing.T) {
	for _, c := range []struct {
		v, region, want int
		e               api.Errno
	}{
		{0, 1, 1, api.OK},
		{0, 8, 8, api.OK},
		{1, 1, 11, api.OK},
		{1, 8, 8, api.OK},
		{8, 1, 11, api.OK},
		{8, 7, 17, api.OK},
		{8, 8, 18, api.OK},
		{11, 2, 12, api.OK},
		{12, 8, 18, api.OK},
		{18, 1, 21, api.OK},
		{98, 1, 101, api.OK},
		{api.MaxVersion - 15, 1, api.MaxVersion - 5, api.OK},
		{api.MaxVersion - 8, 1, api.MaxVersion - 5, api.OK},
		{api.MaxVersion - 8, 6, api.MaxVersion, api.OK},
		{api.MaxVersion - 8, 8, 0, api.ErrFull},
		{api.MaxVersion - 10, 6, api.MaxVersion, api.OK},
		{api.MaxVersion - 9, 7, 0, api.ErrFull},
		{api.MaxVersion - 5, 1, 0, api.ErrFull},
		{api.MaxVersion - 5, 2, api.MaxVersion - 4, api.OK},
		{api.MaxVersion - 1, 6, api.MaxVersion, api.OK},
		{api.MaxVersion - 1, 5, 0, api.ErrFull},
		{api.MaxVersion - 1, 7, 0, api.ErrFull},
		{api.MaxVersion, 6, 0, api.ErrFull},
		{api.MaxVersion, 1, 0, api.ErrFull},
		{api.MaxVersion, 8, 0, api.ErrFull},
	} {
		if got, e := version.Next(c.v, c.region); got != c.want || e != c.e {
			t.Errorf("Next(%d, %d): %d %d, not %d %d", c.v, c.region, got, e, c.want, c.e)
		}
	}
}

// 8.1, Next: a wrong region, a wrong v, and both. ErrArg stands ahead of
// ErrFull: behind the last version there is no room, either.
func TestNextOfWrongOnes(t *testing.T) {
	for _, c := range []struct{ v, region int }{
		{0, 0}, {0, 9}, {0, 10}, {0, 11}, {0, -1}, {0, -9},
		{1, 0}, {1, 9}, {1, -9}, {1, 11}, {1, math.MaxInt}, {1, math.MinInt},
		{9, 1}, {10, 1}, {19, 8}, {20, 2},
		{-1, 1}, {-8, 1}, {-9, 1}, {-10, 1},
		{math.MaxInt, 8}, {math.MinInt, 1}, {math.MinInt, math.MaxInt},
		{api.MaxVersion - 7, 6}, {api.MaxVersion - 6, 1},
		{api.MaxVersion + 1, 8}, {api.MaxVersion + 5, 1},
		{api.MaxVersion, 0}, {api.MaxVersion, 9},
	} {
		if got, e := version.Next(c.v, c.region); got != 0 || e != api.ErrArg {
			t.Errorf("Next(%d, %d): %d %d, not ErrArg", c.v, c.region, got, e)
		}
	}
}

// 8.1, Next: by its words, of every v and region.
func TestNextOfEvery(t *testing.T) {
	who := regions()
	for _, v := range numbers() {
		for _, region := range who {
			want, e := next(v, region)
			if got, is := version.Next(v, region); got != want || is != e {
				t.Errorf("Next(%d, %d): %d %d, not %d %d", v, region, got, is, want, e)
			}
		}
	}
}

// 8.1, Next: the first 2000 versions, reached from 0 on by always asking for
// the least that any region has next, are those that are Right, each once.
func TestNextReachesEvery(t *testing.T) {
	reached := 0
	for v := 1; v <= 2000; v++ {
		if !right(v) {
			continue
		}
		least := math.MaxInt
		for region := 1; region <= api.MaxRegions; region++ {
			if got, e := version.Next(reached, region); e == api.OK {
				least = min(least, got)
			}
		}
		if least != v {
			t.Fatalf("behind %d: %d, not %d", reached, least, v)
		}
		reached = least
	}
}
