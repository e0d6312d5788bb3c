package items_test

import (
	"bytes"
	"encoding/binary"
	"math"
	"slices"
	"testing"

	"cutover/api"
	"cutover/items"
	"cutover/version"
)

// list answers the items whose IDs and versions l has in turn.
func list(l ...int) []api.Item {
	var out []api.Item
	for pair := range slices.Chunk(l, 2) {
		out = append(out, api.Item{ID: pair[0], Version: pair[1]})
	}
	return out
}

// versions are what a right list says, event by event: that of event n stands
// at n - 1.
func versions(l []api.Item) []int {
	var out []int
	for _, i := range l {
		for len(out) < i.ID {
			out = append(out, i.Version)
		}
	}
	return out
}

// short answers the items of events of these versions, from event 1 on: an
// item ends where the next event has another version, or there is none.
func short(versions []int) []api.Item {
	var out []api.Item
	for k, v := range versions {
		if k+1 == len(versions) || versions[k+1] != v {
			out = append(out, api.Item{ID: k + 1, Version: v})
		}
	}
	return out
}

// lists answers all lists of up to most items of these IDs and versions.
func lists(most int, ids, versions []int) [][]api.Item {
	all := [][]api.Item{nil}
	for begin := 0; most > 0; most-- {
		end := len(all)
		for _, l := range all[begin:end] {
			for _, id := range ids {
				for _, v := range versions {
					all = append(all, append(slices.Clone(l), api.Item{ID: id, Version: v}))
				}
			}
		}
		begin = end
	}
	return all
}

// rights answers those of lists that are right by 9.1's words.
func rights(most int, ids, versions []int) [][]api.Item {
	return slices.DeleteFunc(lists(most, ids, versions), func(l []api.Item) bool { return !right(l) })
}

// right is 9.1's Right by its words: each thing asked for by itself.
func right(l []api.Item) bool {
	for k, i := range l {
		if i.ID < 1 || i.ID > api.MaxEvents || !version.Right(i.Version) {
			return false
		}
		if k > 0 && (l[k-1].ID >= i.ID || l[k-1].Version >= i.Version) {
			return false
		}
	}
	return true
}

// branches are right lists, short and long ones, of one version and of
// several, up to the last event and the last version.
func branches() [][]api.Item {
	all := rights(3, []int{1, 2, 3, 4, 6}, []int{1, 2, 11})
	var each, two []int
	for n := range api.MaxEvents {
		each = append(each, n+1, api.Increment*n+3)
		two = append(two, n/2+1)
	}
	all = append(all, list(each...), list(each[:2*api.MaxEvents-2]...))
	for k := range two {
		two[k] = api.Increment*two[k] + 4
	}
	return append(all, short(two), short(two[:151]),
		list(200, 1), list(199, 1), list(199, 1, 200, 11), list(199, 2, 200, 11),
		list(1, 1, 200, api.MaxVersion), list(7, api.MaxVersion), list(200, api.MaxVersion))
}

// wrong are lists that are not right, each in one way.
func wrong() [][]api.Item {
	return [][]api.Item{
		list(0, 1), list(-1, 1), list(201, 1), list(math.MaxInt, 1), list(math.MinInt, 1),
		list(3, 1, 3, 12), list(3, 1, 2, 12), list(3, 1, 201, 12), list(200, 1, 201, 12),
		list(3, 12, 5, 12), list(3, 12, 5, 1), list(0, 1, 5, 12), list(-3, 1, 5, 12),
		list(3, 0), list(3, 9), list(3, 10), list(3, -9), list(3, math.MaxInt), list(3, math.MinInt),
		list(3, api.MaxVersion+1), list(3, 1, 5, 9), list(3, 1, 5, 20), list(3, 1, 5, api.MaxVersion+1),
		list(0, 0), list(0, 0, 3, 1), list(3, 0, 5, 12), list(3, -9, 5, 12),
		list(3, 1, 5, 12, 4, 21), list(3, 1, 5, 12, 7, 11), list(1, 1, 2, 2, 3, 3, 3, 4),
	}
}

// edges are numbers about those at which an ID or a version turns.
func edges() []int {
	l := []int{math.MinInt, math.MinInt + 1, math.MaxInt - 1, math.MaxInt}
	for _, n := range []int{0, api.MaxEvents, 1 << 8, 1 << 16, 1<<16 + api.MaxEvents, api.MaxVersion} {
		for i := -12; i <= 12; i++ {
			l = append(l, n+i)
		}
	}
	return l
}

func TestExample(t *testing.T) {
	if got, want := items.Common(list(3, 1, 5, 12), list(4, 1)), (api.Item{ID: 3, Version: 1}); got != want {
		t.Errorf("Common: %v, not %v", got, want)
	}
}

// 9.1, Right: rows written out: none, both bounds of IDs and of versions, and
// IDs and versions that do not rise.
func TestRight(t *testing.T) {
	for _, c := range []struct {
		l    []api.Item
		want bool
	}{
		{nil, true}, {[]api.Item{}, true},
		{list(1, 1), true}, {list(3, 1, 5, 12), true}, {list(1, 1, 2, 2, 3, 3), true},
		{list(1, 8), true}, {list(200, 8), true}, {list(199, 1, 200, 2), true},
		{list(1, api.MaxVersion), true}, {list(1, 1, 2, api.MaxVersion), true},
		{list(0, 1), false}, {list(-1, 1), false}, {list(201, 1), false},
		{list(1, 1, 201, 2), false}, {list(0, 1, 1, 2), false},
		{list(3, 1, 3, 12), false}, {list(3, 1, 2, 12), false},
		{list(3, 12, 5, 12), false}, {list(3, 12, 5, 11), false},
		{list(1, 0), false}, {list(1, 9), false}, {list(1, 10), false}, {list(1, -9), false},
		{list(1, 1, 2, 9), false}, {list(1, 1, 2, 10), false}, {list(1, 9, 2, 11), false},
		{list(1, api.MaxVersion+1), false}, {list(1, 1, 2, api.MaxVersion+1), false},
	} {
		if got := items.Right(c.l); got != c.want {
			t.Errorf("Right(%v): %t", c.l, got)
		}
	}
}

// 9.1, Right: by its words.
func TestRightOfEvery(t *testing.T) {
	all := append(branches(), wrong()...)
	all = append(all, lists(3, []int{-1, 0, 1, 2, 3, 199, 200, 201}, []int{-9, 0, 1, 2, 9, 11, api.MaxVersion, api.MaxVersion + 1})...)
	for _, id := range edges() {
		for _, v := range edges() {
			all = append(all, list(id, v), list(2, 2, id, v), list(id, v, 9, 12))
		}
	}
	for _, l := range all {
		if got := items.Right(l); got != right(l) {
			t.Fatalf("Right(%v): %t", l, got)
		}
	}
}

// 9.1: wrong is what it says, so that the tests below hand in wrong ones.
func TestWrongIsNotRight(t *testing.T) {
	for _, l := range wrong() {
		if items.Right(l) {
			t.Errorf("Right(%v): true", l)
		}
	}
	for _, l := range branches() {
		if !items.Right(l) {
			t.Errorf("Right(%v): false", l)
		}
	}
}

// 9.1, Of: rows written out: IDs are counted from the first one's, whatever
// the others say, and versions are as told, also where they fall.
func TestOf(t *testing.T) {
	for _, c := range []struct{ events, want []api.Item }{
		{nil, nil},
		{list(1, 1), list(1, 1)},
		{list(4, 1), list(4, 1)},
		{list(1, 1, 2, 1, 3, 1), list(3, 1)},
		{list(1, 1, 2, 2, 3, 12), list(1, 1, 2, 2, 3, 12)},
		{list(4, 1, 99, 1, 7, 12, 1, 21, 0, 21), list(5, 1, 6, 12, 8, 21)},
		{list(1, 12, 2, 1, 3, 12), list(1, 12, 2, 1, 3, 12)},
		{list(1, 12, 1, 12, 1, 1), list(2, 12, 3, 1)},
		{list(1, 0, 2, 0, 3, 9, 4, -1), list(2, 0, 3, 9, 4, -1)},
		{list(0, 1, 5, 1), list(1, 1)},
		{list(-5, 1, 5, 2), list(-5, 1, -4, 2)},
		{list(200, 1, 1, 1, 2, 2), list(201, 1, 202, 2)},
	} {
		if got := items.Of(events(c.events)); !slices.Equal(got, c.want) {
			t.Errorf("Of(%v): %v, not %v", c.events, got, c.want)
		}
	}
}

// events answers events with these IDs and versions.
func events(l []api.Item) []api.Event {
	var out []api.Event
	for _, i := range l {
		out = append(out, api.Event{ID: i.ID, Version: i.Version, Time: 7, Type: api.Signaled, Name: "a"})
	}
	return out
}

// branch answers the events that a right list tells of.
func branch(l []api.Item) []api.Event {
	var out []api.Item
	for k, v := range versions(l) {
		out = append(out, api.Item{ID: k + 1, Version: v})
	}
	return events(out)
}

// 9.1, Of: of the events that a right list tells of it is that list, and of
// those behind the first ones it is what is left of it.
func TestOfEvery(t *testing.T) {
	for _, l := range branches() {
		all := branch(l)
		for n := range all {
			want := slices.DeleteFunc(slices.Clone(l), func(i api.Item) bool { return i.ID <= n })
			if got := items.Of(all[n:]); !slices.Equal(got, want) {
				t.Fatalf("Of %v from event %d on: %v", l, n+1, got)
			}
		}
	}
}

// 9.1, Of: all versions of up to five events, falling ones too.
func TestOfEveryVersions(t *testing.T) {
	for _, l := range lists(5, []int{1}, []int{0, 1, 12}) {
		var told []int
		for _, i := range l {
			told = append(told, i.Version)
		}
		if got := items.Of(events(l)); !slices.Equal(got, short(told)) {
			t.Fatalf("Of versions %v: %v", told, got)
		}
	}
}

// 9.1, Last: the last one, right or not, and 0, 0 of none.
func TestLast(t *testing.T) {
	if got := items.Last(nil); got != (api.Item{}) {
		t.Errorf("Last of none: %v", got)
	}
	if got := items.Last([]api.Item{}); got != (api.Item{}) {
		t.Errorf("Last of an empty list: %v", got)
	}
	for _, l := range append(branches(), wrong()...) {
		if len(l) > 0 && items.Last(l) != l[len(l)-1] {
			t.Errorf("Last(%v): %v", l, items.Last(l))
		}
	}
}

// 9.1, Add: rows written out.
func TestAdd(t *testing.T) {
	for _, c := range []struct {
		l     []api.Item
		id, v int
		want  []api.Item // nil: ErrArg
	}{
		{nil, 1, 3, list(1, 3)},
		{nil, 1, api.MaxVersion, list(1, api.MaxVersion)},
		{nil, 0, 3, nil}, {nil, 2, 3, nil}, {nil, -1, 3, nil},
		{nil, 1, 0, nil}, {nil, 1, 9, nil}, {nil, 1, -9, nil}, {nil, 1, api.MaxVersion + 1, nil},
		{list(3, 1), 4, 1, list(4, 1)},
		{list(3, 1), 4, 2, list(3, 1, 4, 2)},
		{list(3, 1, 5, 12), 6, 12, list(3, 1, 6, 12)},
		{list(3, 1, 5, 12), 6, 13, list(3, 1, 5, 12, 6, 13)},
		{list(3, 1), 3, 12, nil}, {list(3, 1), 5, 12, nil}, {list(3, 1), 1, 12, nil},
		{list(3, 12), 4, 11, nil}, {list(3, 12), 4, 19, nil}, {list(3, 12), 4, 20, nil},
		{list(3, 1, 5, 12), 6, 11, nil}, {list(3, 1, 5, 12), 6, 1, nil}, {list(3, 1, 5, 12), 4, 12, nil},
		{list(199, 1), 200, 1, list(200, 1)},
		{list(199, 1), 200, 11, list(199, 1, 200, 11)},
		{list(200, 1), 201, 1, nil}, {list(200, 1), 201, 11, nil},
		{list(3, 1, 2, 12), 3, 12, nil}, {list(3, 12, 5, 12), 6, 12, nil}, {list(3, 9), 4, 11, nil},
		{list(0, 1), 1, 1, nil}, {list(0, 0), 1, 1, nil}, {list(201, 1), 202, 1, nil},
		{list(3, 1), 4, api.MaxVersion, list(3, 1, 4, api.MaxVersion)},
		{list(3, api.MaxVersion), 4, api.MaxVersion, list(4, api.MaxVersion)},
	} {
		got, e := items.Add(c.l, c.id, c.v)
		if (e == api.OK) != (c.want != nil) || e != api.OK && e != api.ErrArg || !slices.Equal(got, c.want) {
			t.Errorf("Add(%v, %d, %d): %v %d, not %v", c.l, c.id, c.v, got, e, c.want)
		}
	}
}

// add is 9.1's Add by its words, event by event.
func add(l []api.Item, id, v int) ([]api.Item, api.Errno) {
	if !right(l) {
		return nil, api.ErrArg
	}
	told := versions(l)
	switch {
	case id != len(told)+1, id > api.MaxEvents, !version.Right(v):
		return nil, api.ErrArg
	case len(told) > 0 && v < told[len(told)-1]:
		return nil, api.ErrArg
	}
	return short(append(told, v)), api.OK
}

// 9.1, Add: by its words, and its answer is right.
func TestAddOfEvery(t *testing.T) {
	for _, l := range append(branches(), wrong()...) {
		last := items.Last(l)
		ids := []int{0, 1, 2, last.ID - 1, last.ID, last.ID + 1, last.ID + 2, last.ID + 1<<16, 1, -1, 200, 201, math.MaxInt, math.MinInt}
		tried := []int{last.Version - 1, last.Version, last.Version + 1, last.Version + 11, 0, 1, 9, -9, api.MaxVersion, api.MaxVersion + 1, math.MaxInt, math.MinInt}
		for _, id := range ids {
			for _, v := range tried {
				got, e := items.Add(l, id, v)
				want, ee := add(l, id, v)
				if e != ee || !slices.Equal(got, want) {
					t.Fatalf("Add(%v, %d, %d): %v %d, not %v %d", l, id, v, got, e, want, ee)
				}
				if e == api.OK && !items.Right(got) {
					t.Fatalf("Add(%v, %d, %d): %v is not right", l, id, v, got)
				}
			}
		}
	}
}

// 9.1, Add: one by one it makes what Of answers of all.
func TestAddOneByOne(t *testing.T) {
	for _, l := range branches() {
		var made []api.Item
		for _, event := range branch(l) {
			var e api.Errno
			if made, e = items.Add(made, event.ID, event.Version); e != api.OK {
				t.Fatalf("%v: Add of event %d: %d", l, event.ID, e)
			}
		}
		if !slices.Equal(made, l) {
			t.Fatalf("%v, not %v", made, l)
		}
	}
}

// 9.1, Version: rows written out: both ends of each item, and no event.
func TestVersion(t *testing.T) {
	l := list(3, 1, 5, 12, 6, 21)
	for _, c := range []struct{ id, want int }{
		{math.MinInt, 0}, {-1, 0}, {0, 0}, {1, 1}, {2, 1}, {3, 1}, {4, 12}, {5, 12}, {6, 21}, {7, 0}, {math.MaxInt, 0},
	} {
		if got := items.Version(l, c.id); got != c.want {
			t.Errorf("Version(%v, %d): %d, not %d", l, c.id, got, c.want)
		}
		if got := items.Version(nil, c.id); got != 0 {
			t.Errorf("Version(none, %d): %d", c.id, got)
		}
	}
}

// 9.1, Has: rows written out.
func TestHas(t *testing.T) {
	l := list(3, 1, 5, 12)
	for _, c := range []struct {
		id, v int
		want  bool
	}{
		{0, 0, true}, {1, 1, true}, {2, 1, true}, {3, 1, true}, {4, 12, true}, {5, 12, true},
		{1, 0, false}, {1, 12, false}, {3, 12, false}, {4, 1, false}, {5, 1, false}, {5, 2, false},
		{0, 1, false}, {0, 12, false}, {-1, 0, false}, {-1, 1, false},
		{6, 0, false}, {6, 12, false}, {math.MaxInt, 0, false}, {math.MinInt, 0, false},
	} {
		i := api.Item{ID: c.id, Version: c.v}
		if got := items.Has(l, i); got != c.want {
			t.Errorf("Has(%v, %v): %t", l, i, got)
		}
		if got := items.Has(nil, i); got != (i == api.Item{}) {
			t.Errorf("Has(none, %v): %t", i, got)
		}
	}
}

// 9.1, Version, Has: by their words, event by event.
func TestVersionAndHasOfEvery(t *testing.T) {
	for _, l := range branches() {
		told := versions(l)
		for _, id := range edges() {
			want := 0
			if id >= 1 && id <= len(told) {
				want = told[id-1]
			}
			if got := items.Version(l, id); got != want {
				t.Fatalf("Version(%v, %d): %d, not %d", l, id, got, want)
			}
			for _, v := range []int{0, 1, 2, 11, want, want - 1, want + 1, -want} {
				i := api.Item{ID: id, Version: v}
				there := i == api.Item{} || id >= 1 && id <= len(told) && v == want
				if got := items.Has(l, i); got != there {
					t.Fatalf("Has(%v, %v): %t", l, i, got)
				}
			}
		}
	}
}

// 9.1, Version, Has, 9.2, Cut: a list that is not right is read by the same
// words: an event is told of by the first item that reaches up to it, a
// version is as told, and nothing is event 0 or ahead of it.
func TestWrongOnesAsTold(t *testing.T) {
	for _, c := range []struct {
		l           []api.Item
		id, version int
		has         bool
		cut         []api.Item
	}{
		{list(-2, 1, 3, 12), -2, 0, false, nil},
		{list(-2, 1, 3, 12), 0, 0, false, nil},
		{list(0, 1), 0, 0, false, nil},
		{list(-2, 1, 3, 12), 2, 12, true, list(-2, 1, 2, 12)},
		{list(3, 0), 2, 0, true, list(2, 0)},
		{list(3, 0), 4, 0, false, list(3, 0)},
		{list(3, 9, 5, 9), 4, 9, true, list(3, 9, 4, 9)},
		{list(5, 12, 3, 1), 4, 12, true, list(4, 12)},
		{list(3, 1, 2, 12, 5, 21), 3, 1, true, list(3, 1)},
		{list(3, 1, 2, 12, 5, 21), 4, 21, true, list(3, 1, 2, 12, 4, 21)},
		{list(math.MaxInt, 1), math.MaxInt, 1, true, list(math.MaxInt, 1)},
		{list(math.MaxInt, 1), 400, 1, true, list(400, 1)},
	} {
		if got := items.Version(c.l, c.id); got != c.version {
			t.Errorf("Version(%v, %d): %d, not %d", c.l, c.id, got, c.version)
		}
		told := 1
		if c.has {
			told = c.version
		}
		if got := items.Has(c.l, api.Item{ID: c.id, Version: told}); got != c.has {
			t.Errorf("Has(%v, %d): %t", c.l, c.id, got)
		}
		if got := items.Cut(c.l, c.id); !slices.Equal(got, c.cut) {
			t.Errorf("Cut(%v, %d): %v, not %v", c.l, c.id, got, c.cut)
		}
	}
}

// 9.2, Common: rows written out, each asked both ways.
func TestCommon(t *testing.T) {
	for _, c := range []struct {
		a, b, want []api.Item
	}{
		{nil, nil, list(0, 0)},
		{nil, list(1, 1), list(0, 0)},
		{list(3, 1), list(3, 2), list(0, 0)},
		{list(9, 1), list(1, 2), list(0, 0)},
		{list(3, 1), list(3, 1), list(3, 1)},
		{list(3, 1), list(4, 1), list(3, 1)},
		{list(3, 1, 5, 12), list(4, 1), list(3, 1)},
		{list(3, 1, 5, 12), list(3, 1), list(3, 1)},
		{list(3, 1, 5, 12), list(2, 1), list(2, 1)},
		{list(3, 1, 5, 12), list(3, 1, 5, 12), list(5, 12)},
		{list(3, 1, 5, 12), list(3, 1, 9, 12), list(5, 12)},
		{list(3, 1, 5, 12), list(3, 1, 4, 21), list(3, 1)},
		// they end alike, and are not alike ahead of that
		{list(3, 1, 5, 12), list(2, 1, 5, 12), list(2, 1)},
		{list(3, 1, 5, 12), list(3, 2, 5, 12), list(0, 0)},
		{list(3, 1, 5, 12, 7, 21), list(3, 1, 6, 12, 7, 21), list(5, 12)},
		{list(3, 1, 5, 12, 7, 21), list(3, 1, 7, 21), list(3, 1)},
		// the whole of one is the beginning of the other
		{list(3, 1, 5, 12), list(3, 1, 5, 12, 200, api.MaxVersion), list(5, 12)},
	} {
		if got := items.Common(c.a, c.b); got != c.want[0] {
			t.Errorf("Common(%v, %v): %v, not %v", c.a, c.b, got, c.want[0])
		}
		if got := items.Common(c.b, c.a); got != c.want[0] {
			t.Errorf("Common(%v, %v): %v, not %v", c.b, c.a, got, c.want[0])
		}
	}
}

// 9.2, Common: by its words, event by event; and both lists have it.
func TestCommonOfEvery(t *testing.T) {
	all := branches()
	for _, a := range all {
		for _, b := range all {
			x, y := versions(a), versions(b)
			want := api.Item{}
			for k := 0; k < len(x) && k < len(y) && x[k] == y[k]; k++ {
				want = api.Item{ID: k + 1, Version: x[k]}
			}
			if got := items.Common(a, b); got != want {
				t.Fatalf("Common(%v, %v): %v, not %v", a, b, got, want)
			}
			if !items.Has(a, want) || !items.Has(b, want) {
				t.Fatalf("%v and %v have not %v", a, b, want)
			}
		}
	}
}

// 9.2, Cut: rows written out.
func TestCut(t *testing.T) {
	l := list(3, 1, 5, 12)
	for _, c := range []struct {
		id   int
		want []api.Item
	}{
		{math.MinInt, nil}, {-1, nil}, {0, nil},
		{1, list(1, 1)}, {2, list(2, 1)}, {3, list(3, 1)},
		{4, list(3, 1, 4, 12)}, {5, l}, {6, l}, {math.MaxInt, l},
	} {
		if got := items.Cut(l, c.id); !slices.Equal(got, c.want) {
			t.Errorf("Cut(%v, %d): %v, not %v", l, c.id, got, c.want)
		}
		if got := items.Cut(nil, c.id); len(got) != 0 {
			t.Errorf("Cut(none, %d): %v", c.id, got)
		}
	}
}

// 9.2, Cut: it is what tells of the first events alone, and what it has in
// common with the whole is all of it.
func TestCutOfEvery(t *testing.T) {
	for _, l := range branches() {
		told := versions(l)
		for _, id := range edges() {
			want := short(told[:max(0, min(id, len(told)))])
			got := items.Cut(l, id)
			if !slices.Equal(got, want) {
				t.Fatalf("Cut(%v, %d): %v, not %v", l, id, got, want)
			}
			if items.Common(l, got) != items.Last(got) {
				t.Fatalf("Cut(%v, %d): %v is no beginning of it", l, id, got)
			}
		}
	}
}

// 9.2, Compare: rows written out, from the least to the greatest: the version
// goes ahead of the ID, and only the last items are asked.
func TestCompare(t *testing.T) {
	rows := [][]api.Item{
		nil, list(1, 1), list(2, 1), list(200, 1), list(1, 2), list(1, 1, 3, 2), list(5, 2),
		list(4, 11), list(3, 1, 5, 12), list(1, 2, 6, 12), list(2, 1, 3, 21), list(1, api.MaxVersion),
	}
	for i, a := range rows {
		for k, b := range rows {
			want := 0
			if i < k {
				want = -1
			} else if i > k {
				want = 1
			}
			if got := items.Compare(a, b); got != want {
				t.Errorf("Compare(%v, %v): %d, not %d", a, b, got, want)
			}
		}
	}
	if got := items.Compare(list(3, 1, 5, 12, 7, 21), list(3, 2, 6, 12, 7, 21)); got != 0 {
		t.Errorf("Compare of two that end alike: %d", got)
	}
}

// 9.2, Compare: by its words, also where a difference would go round.
func TestCompareOfEvery(t *testing.T) {
	all := append(branches(), wrong()...)
	all = append(all, list(math.MinInt, 1), list(3, math.MinInt), list(-1, math.MaxInt))
	for _, a := range all {
		for _, b := range all {
			x, y := items.Last(a), items.Last(b)
			want := 0
			switch {
			case x.Version < y.Version, x.Version == y.Version && x.ID < y.ID:
				want = -1
			case x.Version > y.Version, x.Version == y.Version && x.ID > y.ID:
				want = 1
			}
			if got := items.Compare(a, b); got != want {
				t.Fatalf("Compare(%v, %v): %d, not %d", a, b, got, want)
			}
		}
	}
}

// 9.3, Lay: bytes written out.
func TestLay(t *testing.T) {
	for _, c := range []struct {
		l    []api.Item
		want string
	}{
		{nil, "\x00\x00"},
		{list(1, 1), "\x00\x01\x00\x01\x00\x00\x00\x00\x00\x00\x00\x01"},
		{list(200, api.MaxVersion), "\x00\x01\x00\xc8\x00\x00\x01\x00\x00\x00\x00\x00"},
		{list(7, 0x0102030405), "\x00\x01\x00\x07\x00\x00\x00\x01\x02\x03\x04\x05"},
		{
			list(3, 1, 5, 12),
			"\x00\x02\x00\x03\x00\x00\x00\x00\x00\x00\x00\x01\x00\x05\x00\x00\x00\x00\x00\x00\x00\x0c",
		},
	} {
		b, e := items.Lay(c.l)
		if e != api.OK || string(b) != c.want {
			t.Errorf("Lay(%v): %x %d, not %x", c.l, b, e, c.want)
		}
		l, e := items.Read([]byte(c.want))
		if e != api.OK || !slices.Equal(l, c.l) {
			t.Errorf("Read(%x): %v %d, not %v", c.want, l, e, c.l)
		}
	}
}

// laid lays any list, right or not, as 9.3 says it of right ones, with n as
// how many there are.
func laid(n int, l []api.Item) []byte {
	b := binary.BigEndian.AppendUint16(nil, uint16(n))
	for _, i := range l {
		b = binary.BigEndian.AppendUint16(b, uint16(i.ID))
		b = binary.BigEndian.AppendUint64(b, uint64(i.Version))
	}
	return b
}

// 9.3, Lay, Read: there and back; a list that is not right is not laid.
func TestLayOfEvery(t *testing.T) {
	for _, l := range branches() {
		b, e := items.Lay(l)
		if want := laid(len(l), l); e != api.OK || !bytes.Equal(b, want) {
			t.Fatalf("Lay(%v): %x %d, not %x", l, b, e, want)
		}
		got, e := items.Read(b)
		if e != api.OK || !slices.Equal(got, l) {
			t.Fatalf("Read(Lay(%v)): %v %d", l, got, e)
		}
	}
	for _, l := range wrong() {
		if b, e := items.Lay(l); e != api.ErrArg || len(b) != 0 {
			t.Errorf("Lay(%v): %x %d", l, b, e)
		}
	}
}

// 9.3, Read: bytes that tell a list that is not right, or of which the count
// says another number of items.
func TestReadOfWrongOnes(t *testing.T) {
	for _, l := range wrong() {
		readsNone(t, laid(len(l), l))
	}
	for _, l := range branches() {
		for _, n := range []int{-1, 0, 1, len(l) - 1, len(l) + 1, len(l) + 256, 1<<16 - 1} {
			if n != len(l) {
				readsNone(t, laid(n, l))
			}
		}
	}
	var many []int
	for n := range 1 << 16 {
		many = append(many, n+1, api.Increment*n+3)
	}
	readsNone(t, laid(1<<16, list(many...)))
	readsNone(t, laid(201, list(many[:402]...)))
	readsNone(t, laid(1<<16-1, list(many[:2*(1<<16-1)]...)))
}

// readsNone holds Read to ErrForm, and no items beside it.
func readsNone(t *testing.T, b []byte) {
	t.Helper()
	if l, e := items.Read(b); e != api.ErrForm || len(l) != 0 {
		t.Errorf("Read(%.40x), %d bytes: %v %d", b, len(b), l, e)
	}
}

// 9.3, Read: cut at any place, or with bytes more, they are not laid so; what
// is left without the first ones is laid so by luck alone.
func TestReadOfCutOnes(t *testing.T) {
	for _, l := range branches() {
		b := laid(len(l), l)
		for n := range b {
			readsNone(t, b[:n])
			readsByWords(t, b[n+1:])
		}
		for n := 1; n <= 24; n++ {
			readsNone(t, append(slices.Clone(b), make([]byte, n)...))
		}
		readsNone(t, append(slices.Clone(b), b...))
	}
	readsNone(t, nil)
	readsNone(t, []byte{})
}

// read is 9.3's Read by its words: b's items are taken as its count says, and
// held against b.
func read(b []byte) ([]api.Item, api.Errno) {
	if len(b) < 2 {
		return nil, api.ErrForm
	}
	n := int(binary.BigEndian.Uint16(b))
	if len(b) != 2+10*n {
		return nil, api.ErrForm
	}
	var l []api.Item
	for k := range n {
		at := b[2+10*k:]
		l = append(l, api.Item{ID: int(binary.BigEndian.Uint16(at)), Version: int(binary.BigEndian.Uint64(at[2:]))})
	}
	if !right(l) {
		return nil, api.ErrForm
	}
	return l, api.OK
}

// readsByWords holds Read to what 9.3 says of b.
func readsByWords(t *testing.T, b []byte) {
	t.Helper()
	got, e := items.Read(b)
	want, ee := read(b)
	if e != ee || !slices.Equal(got, want) {
		t.Errorf("Read(%.40x), %d bytes: %v %d, not %v %d", b, len(b), got, e, want, ee)
	}
}

// 9.3, Read: each byte turned to each other one.
func TestReadOfTurnedOnes(t *testing.T) {
	for _, l := range [][]api.Item{nil, list(1, 1), list(3, 1, 5, 12), list(199, 8, 200, api.MaxVersion), list(1, 1, 2, 2, 3, 3)} {
		whole := laid(len(l), l)
		for k := range whole {
			for x := range 256 {
				b := slices.Clone(whole)
				b[k] = byte(x)
				readsByWords(t, b)
			}
		}
	}
}

// filled stands in spare room, to see whether a call writes there.
var filled = api.Item{ID: 77, Version: 7777}

// roomy answers l with spare room behind it.
func roomy(l []api.Item) []api.Item {
	room := append(slices.Clone(l), filled, filled, filled)
	return room[:len(l)]
}

// R2: no call turns a list that is handed in, nor its spare room.
func TestListsAreLeftAlone(t *testing.T) {
	for _, l := range append(branches(), wrong()...) {
		own, other := roomy(l), roomy(l)
		last := items.Last(l)
		items.Right(own)
		items.Add(own, last.ID+1, last.Version)
		items.Add(own, last.ID+1, last.Version+10)
		items.Add(own, 1, 1)
		items.Version(own, last.ID)
		items.Has(own, last)
		items.Common(own, other)
		items.Compare(own, other)
		for id := -1; id < 9; id++ {
			items.Cut(own, id)
		}
		items.Cut(own, last.ID-1)
		items.Cut(own, api.MaxEvents)
		items.Lay(own)
		for _, kept := range [][]api.Item{own, other} {
			whole := append(slices.Clone(l), filled, filled, filled)
			if !slices.Equal(kept[:cap(kept)][:len(whole)], whole) {
				t.Fatalf("%v was turned: %v", l, kept[:cap(kept)])
			}
		}
	}
}

// R2: Of turns no event, and keeps none.
func TestEventsAreLeftAlone(t *testing.T) {
	l := events(list(4, 1, 9, 1, 7, 12, 2, 12))
	l = append(l, l[0])[:4]
	was := slices.Clone(l[:5])
	got := items.Of(l)
	for k, e := range l[:5] {
		if e.ID != was[k].ID || e.Version != was[k].Version || e.Name != "a" || e.Time != 7 {
			t.Errorf("event %d was turned", k)
		}
	}
	clear(l[:5])
	if !slices.Equal(got, list(5, 1, 7, 12)) {
		t.Errorf("Of turned behind: %v", got)
	}
}

// spoil fills all of a list, its spare room included.
func spoil(l []api.Item) {
	l = l[:cap(l)]
	for k := range l {
		l[k] = filled
	}
}

// R2: an answer is new memory, its spare room too: to fill it turns neither
// what was handed in nor another answer.
func TestAnswersAreNew(t *testing.T) {
	for _, l := range branches() {
		last := items.Last(l)
		calls := []func(l []api.Item) []api.Item{
			func(l []api.Item) []api.Item { return items.Cut(l, api.MaxEvents) },
			func(l []api.Item) []api.Item { return items.Cut(l, last.ID) },
			func(l []api.Item) []api.Item { return items.Cut(l, last.ID-1) },
			func(l []api.Item) []api.Item { return items.Cut(l, 1) },
			func(l []api.Item) []api.Item { return items.Cut(l, 0) },
			func(l []api.Item) []api.Item { got, _ := items.Add(l, last.ID+1, last.Version); return got },
			func(l []api.Item) []api.Item { got, _ := items.Add(l, last.ID+1, last.Version+10); return got },
			func(l []api.Item) []api.Item { got, _ := items.Add(l, last.ID+1, max(last.Version, 1)); return got },
		}
		for k, call := range calls {
			own := roomy(l)
			first, second := call(own), call(own)
			want := slices.Clone(second)
			spoil(first)
			if !slices.Equal(second, want) {
				t.Fatalf("%v, call %d: two answers share memory", l, k)
			}
			if !slices.Equal(own[:len(l)+3], append(slices.Clone(l), filled, filled, filled)) {
				t.Fatalf("%v, call %d: the answer shares memory with it", l, k)
			}
		}
	}
}

// R2: bytes are left alone and not kept, and those that are answered are new.
func TestBytesAreNew(t *testing.T) {
	l := list(3, 1, 5, 12)
	first, _ := items.Lay(l)
	second, _ := items.Lay(l)
	whole := first[:cap(first)]
	for k := range whole {
		whole[k] = 0xee
	}
	if want := laid(2, l); !bytes.Equal(second, want) {
		t.Errorf("two answers share memory: %x", second)
	}
	b := append(laid(2, l), 0xdd, 0xdd)
	one, _ := items.Read(b[:len(b)-2])
	two, _ := items.Read(b[:len(b)-2])
	if want := append(laid(2, l), 0xdd, 0xdd); !bytes.Equal(b, want) {
		t.Errorf("Read turned its bytes: %x", b)
	}
	clear(b)
	spoil(one)
	if !slices.Equal(two, l) {
		t.Errorf("Read turned behind: %v", two)
	}
}

// R1: whatever is handed in, each call ends.
func TestWrongOnesEnd(t *testing.T) {
	all := append(wrong(), nil, list(1, 1))
	all = append(all, lists(2, []int{math.MinInt, -1, 0, 3, math.MaxInt}, []int{math.MinInt, 0, 1, math.MaxInt})...)
	for _, a := range all {
		for _, b := range all {
			items.Common(a, b)
			items.Compare(a, b)
		}
		for _, n := range edges() {
			items.Cut(a, n)
			items.Version(a, n)
			items.Has(a, api.Item{ID: n, Version: n})
			items.Add(a, n, n)
		}
		items.Of(events(a))
	}
}
