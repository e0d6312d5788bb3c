package dag_test

import (
	"math"
	"math/rand"
	"slices"
	"testing"

	"cutover/api"
	"cutover/dag"
)

// of answers nodes with these Needs, in bounds beside them.
func of(needs ...[]int) []api.Def {
	var l []api.Def
	for _, n := range needs {
		l = append(l, api.Def{Needs: n, Tries: 1, Lease: 1})
	}
	return l
}

// free answers so many nodes that need none.
func free(nodes int) []api.Def {
	return of(make([][]int, nodes)...)
}

// copied answers l with lists of its own.
func copied(l []api.Def) []api.Def {
	l = slices.Clone(l)
	for k := range l {
		l[k].Needs = slices.Clone(l[k].Needs)
	}
	return l
}

// same answers whether a and b are alike.
func same(a, b []api.Def) bool {
	return slices.EqualFunc(a, b, func(a, b api.Def) bool {
		return a.Tries == b.Tries && a.Lease == b.Lease && slices.Equal(a.Needs, b.Needs)
	})
}

// bounded answers whether l is none of those that 11.1 has as ErrArg, asking
// for each thing by itself.
func bounded(l []api.Def) bool {
	ok := len(l) > 0 && len(l) < 9
	for _, d := range l {
		ok = ok && d.Tries > 0 && d.Tries < 6 && d.Lease > 0 && d.Lease < 1048577
		for k, n := range d.Needs {
			ok = ok && n >= 0 && n < len(l)
			for _, ahead := range d.Needs[:k] {
				ok = ok && ahead < n
			}
			if !ok {
				return false
			}
		}
	}
	return ok
}

// ways answers for a bounded l which node needs which, by whatever way: from
// those that it names, over each node in between.
func ways(l []api.Def) [][]bool {
	w := make([][]bool, len(l))
	for k, d := range l {
		w[k] = make([]bool, len(l))
		for _, n := range d.Needs {
			w[k][n] = true
		}
	}
	for between := range l {
		for from := range l {
			for to := range l {
				if w[from][between] && w[between][to] {
					w[from][to] = true
				}
			}
		}
	}
	return w
}

// check is 11.1's Check by its words.
func check(l []api.Def) api.Errno {
	if !bounded(l) {
		return api.ErrArg
	}
	for k, to := range ways(l) {
		if to[k] {
			return api.ErrCycle
		}
	}
	return api.OK
}

// orders is 11.1's Order held to its words: each node once, and at each place
// one that may come next, and none of those behind it that is less may.
func orders(l []api.Def, order []int) bool {
	if len(order) != len(l) {
		return false
	}
	for k, node := range order {
		if node < 0 || node >= len(l) || slices.Contains(order[:k], node) || !come(l[node].Needs, order[:k]) {
			return false
		}
		for _, behind := range order[k+1:] {
			if behind < 0 || behind >= len(l) || behind < node && come(l[behind].Needs, order[:k]) {
				return false
			}
		}
	}
	return true
}

// come answers whether all of these are among those that came.
func come(needs, came []int) bool {
	for _, n := range needs {
		if !slices.Contains(came, n) {
			return false
		}
	}
	return true
}

// longest answers how many nodes the longest way from a node on has.
func longest(l []api.Def, node int) int {
	most := 0
	for _, n := range l[node].Needs {
		most = max(most, longest(l, n))
	}
	return most + 1
}

// depth is 11.1's Depth by its words.
func depth(l []api.Def) int {
	most := 0
	for node := range l {
		most = max(most, longest(l, node))
	}
	return most
}

// readies is 11.1's Ready by its words.
func readies(l []api.Def, done []bool) []int {
	var were, out []int
	for k, is := range done {
		if is {
			were = append(were, k)
		}
	}
	for k, d := range l {
		if !slices.Contains(were, k) && come(d.Needs, were) {
			out = append(out, k)
		}
	}
	return out
}

// dones answers all lists of up to so many trues and falses.
func dones(most int) [][]bool {
	all := [][]bool{nil}
	for begin := 0; most > 0; most-- {
		end := len(all)
		for _, l := range all[begin:end] {
			all = append(all, append(slices.Clone(l), false), append(slices.Clone(l), true))
		}
		begin = end
	}
	return all
}

// nodes are numbers of nodes and of none.
var nodes = []int{math.MinInt, math.MinInt + 1, -256, -9, -8, -2, -1, 0, 1, 2, 3, 4, 5, 6, 7, 8, 9, 10, 255, 256, 257, 1 << 32, 1<<32 + 1, math.MaxInt - 1, math.MaxInt}

// holds holds all calls to 11.1, of one list, whatever it is.
func holds(t *testing.T, l []api.Def, dones [][]bool) {
	t.Helper()
	was := copied(l)
	want := check(l)
	if got := dag.Check(l); got != want {
		t.Fatalf("Check(%v): %d, not %d", l, got, want)
	}
	if want != api.OK {
		refused(t, l, dones)
		return
	}
	if order, ok := dag.Order(l); !ok || !orders(l, order) {
		t.Fatalf("Order(%v): %v %t", l, order, ok)
	}
	if got, want := dag.Depth(l), depth(l); got != want {
		t.Fatalf("Depth(%v): %d, not %d", l, got, want)
	}
	w := ways(l)
	for _, node := range nodes {
		var want []int
		for n := range l {
			if node >= 0 && node < len(l) && w[node][n] {
				want = append(want, n)
			}
		}
		if got := dag.Ahead(l, node); !slices.Equal(got, want) {
			t.Fatalf("Ahead(%v, %d): %v, not %v", l, node, got, want)
		}
	}
	for _, done := range dones {
		if got, want := dag.Ready(l, done), readies(l, done); !slices.Equal(got, want) {
			t.Fatalf("Ready(%v, %t): %v, not %v", l, done, got, want)
		}
	}
	if !same(l, was) {
		t.Fatalf("%v was turned into %v", was, l)
	}
}

// refused holds all calls but Check to what they are of a list that Check
// refuses.
func refused(t *testing.T, l []api.Def, dones [][]bool) {
	t.Helper()
	if order, ok := dag.Order(l); ok || len(order) != 0 {
		t.Fatalf("Order(%v): %v %t", l, order, ok)
	}
	if got := dag.Depth(l); got != 0 {
		t.Fatalf("Depth(%v): %d", l, got)
	}
	for _, node := range nodes {
		if got := dag.Ahead(l, node); len(got) != 0 {
			t.Fatalf("Ahead(%v, %d): %v", l, node, got)
		}
	}
	for _, done := range dones {
		if got := dag.Ready(l, done); len(got) != 0 {
			t.Fatalf("Ready(%v, %t): %v", l, done, got)
		}
	}
}

func TestExample(t *testing.T) {
	if got, ok := dag.Order(of([]int{1}, nil)); !ok || !slices.Equal(got, []int{1, 0}) {
		t.Errorf("0 needs 1; 1 needs none: %v %t", got, ok)
	}
}

// 11.1, Check: rows written out: how many nodes there are, each bound of
// Tries, of Lease and of Needs, and circles.
func TestCheck(t *testing.T) {
	for _, c := range []struct {
		l    []api.Def
		want api.Errno
	}{
		{nil, api.ErrArg}, {[]api.Def{}, api.ErrArg},
		{free(1), api.OK}, {free(8), api.OK}, {free(9), api.ErrArg}, {free(256), api.ErrArg}, {free(257), api.ErrArg},
		{[]api.Def{{Tries: 1, Lease: 1, Needs: []int{}}}, api.OK},
		{[]api.Def{{Tries: 5, Lease: 1}}, api.OK}, {[]api.Def{{Tries: 6, Lease: 1}}, api.ErrArg},
		{[]api.Def{{Lease: 1}}, api.ErrArg}, {[]api.Def{{Tries: -1, Lease: 1}}, api.ErrArg},
		{[]api.Def{{Tries: 1, Lease: 1 << 20}}, api.OK}, {[]api.Def{{Tries: 1, Lease: 1<<20 + 1}}, api.ErrArg},
		{[]api.Def{{Tries: 1}}, api.ErrArg}, {[]api.Def{{Tries: 1, Lease: -1}}, api.ErrArg},
		{of([]int{1}, nil), api.OK}, {of(nil, []int{0}), api.OK},
		{of([]int{2}, nil), api.ErrArg}, {of(nil, []int{-1}), api.ErrArg}, {of([]int{1}), api.ErrArg},
		{of(nil, nil, []int{0, 1}), api.OK}, {of(nil, nil, []int{1, 0}), api.ErrArg}, {of(nil, nil, []int{1, 1}), api.ErrArg},
		{of(nil, nil, []int{0, 0}), api.ErrArg}, {of(nil, nil, []int{0, 3}), api.ErrArg}, {of(nil, nil, []int{-1, 0}), api.ErrArg},
		{of([]int{0}), api.ErrCycle}, {of(nil, []int{1}), api.ErrCycle}, {of(nil, []int{0, 1}), api.ErrCycle},
		{of([]int{1}, []int{0}), api.ErrCycle}, {of([]int{1}, []int{2}, []int{0}), api.ErrCycle},
		{of([]int{1}, []int{2}, []int{1}), api.ErrCycle}, {of(nil, []int{0, 3}, []int{1}, []int{2}), api.ErrCycle},
		{of([]int{1}, []int{2}, []int{3}, []int{4}, []int{5}, []int{6}, []int{7}, []int{0}), api.ErrCycle},
		{of([]int{1}, []int{2}, []int{3}, []int{4}, []int{5}, []int{6}, []int{7}, nil), api.OK},
	} {
		if got := dag.Check(c.l); got != c.want {
			t.Errorf("Check(%v): %d, not %d", c.l, got, c.want)
		}
	}
}

// 11.1 and R3, Check: ErrArg where there is a circle, too, wherever it stands.
func TestCheckArgFirst(t *testing.T) {
	for _, l := range [][]api.Def{
		of([]int{0}, []int{2}), of([]int{2}, []int{1}), of([]int{0}, []int{1, 0}), of([]int{1}, []int{0}, []int{1, 1}),
		of([]int{-1}, []int{1}), of([]int{0, 1}),
		{{Needs: []int{0}, Lease: 1}}, {{Needs: []int{0}, Tries: 6, Lease: 1}}, {{Needs: []int{0}, Tries: 1}},
		{{Needs: []int{0}, Tries: 1, Lease: 1}, {Tries: 1}}, {{Tries: 6, Lease: 1}, {Needs: []int{1}, Tries: 1, Lease: 1}},
		of([]int{0}, nil, nil, nil, nil, nil, nil, nil, nil), of(nil, nil, nil, nil, nil, nil, nil, nil, []int{8}),
	} {
		if got := dag.Check(l); got != api.ErrArg {
			t.Errorf("Check(%v): %d", l, got)
		}
		holds(t, l, dones(3))
	}
}

// 11.1, Order: rows written out: of those that may come next always the
// least, also where it may only since one ahead of it came.
func TestOrder(t *testing.T) {
	for _, c := range []struct {
		l    []api.Def
		want []int
	}{
		{free(1), []int{0}}, {free(8), []int{0, 1, 2, 3, 4, 5, 6, 7}},
		{of([]int{1}, nil), []int{1, 0}}, {of(nil, []int{0}), []int{0, 1}},
		{of([]int{3}, nil, []int{0}, nil), []int{1, 3, 0, 2}},
		{of([]int{2}, nil, nil, []int{1}), []int{1, 2, 0, 3}},
		{of([]int{1}, []int{2}, []int{3}, nil), []int{3, 2, 1, 0}},
		{of([]int{1}, []int{3}, nil, nil, nil), []int{2, 3, 1, 0, 4}},
		{of([]int{1, 2, 3}, []int{3}, []int{3}, nil), []int{3, 1, 2, 0}},
		{of([]int{7}, []int{0}, nil, []int{1}, nil, []int{2}, nil, []int{4}), []int{2, 4, 5, 6, 7, 0, 1, 3}},
	} {
		if got, ok := dag.Order(c.l); !ok || !slices.Equal(got, c.want) {
			t.Errorf("Order(%v): %v %t, not %v", c.l, got, ok, c.want)
		}
	}
	for _, l := range [][]api.Def{nil, {}, {{}}, free(9), of([]int{0}), of(nil, []int{2, 3}, []int{3}, []int{1}), of(nil, []int{0, 0})} {
		if got, ok := dag.Order(l); ok || len(got) != 0 {
			t.Errorf("Order(%v): %v %t", l, got, ok)
		}
	}
}

// 11.1, Ready: rows written out: what is not done and needs nothing that is
// not, whatever else is done; past the end of done none is; and done may be
// longer.
func TestReady(t *testing.T) {
	l := of([]int{3}, nil, []int{0, 1}, nil)
	for _, c := range []struct {
		done []bool
		want []int
	}{
		{nil, []int{1, 3}}, {[]bool{}, []int{1, 3}}, {[]bool{false}, []int{1, 3}},
		{[]bool{false, true}, []int{3}}, {[]bool{false, false, false, true}, []int{0, 1}},
		{[]bool{true}, []int{1, 3}}, {[]bool{true, true}, []int{2, 3}}, {[]bool{true, false, false, true}, []int{1}},
		{[]bool{true, true, false, true}, []int{2}}, {[]bool{false, true, true, true}, []int{0}},
		{[]bool{true, true, true}, []int{3}}, {[]bool{true, true, true, true}, nil},
		{[]bool{false, false, false, false, true, true}, []int{1, 3}},
		{[]bool{true, true, true, true, false, false}, nil}, {[]bool{false, true, true, false, true}, []int{3}},
	} {
		if got := dag.Ready(l, c.done); !slices.Equal(got, c.want) {
			t.Errorf("Ready(%t): %v, not %v", c.done, got, c.want)
		}
	}
	for _, l := range [][]api.Def{nil, {}, {{}}, free(9), of([]int{0}), of(nil, []int{1}), of(nil, []int{2}), of(nil, []int{0, 0})} {
		for _, done := range dones(3) {
			if got := dag.Ready(l, done); len(got) != 0 {
				t.Errorf("Ready(%v, %t): %v", l, done, got)
			}
		}
	}
}

// 11.1, Depth: rows written out: nodes, not steps, and the longest way where
// there are shorter ones.
func TestDepth(t *testing.T) {
	for _, c := range []struct {
		l    []api.Def
		want int
	}{
		{free(1), 1}, {free(8), 1}, {of([]int{1}, nil), 2}, {of(nil, []int{0}), 2}, {of(nil, []int{0}, []int{0}), 2},
		{of(nil, []int{0}, []int{0, 1}), 3}, {of([]int{1, 2}, []int{2}, nil), 3}, {of([]int{1}, nil, []int{3}, []int{4}, nil), 3},
		{of([]int{1}, []int{2}, []int{3}, []int{4}, []int{5}, []int{6}, []int{7}, nil), 8},
		{of([]int{1, 7}, []int{2, 7}, nil, nil, nil, []int{6}, []int{0}, nil), 5},
		{nil, 0}, {[]api.Def{}, 0}, {[]api.Def{{}}, 0}, {free(9), 0}, {of([]int{0}), 0}, {of(nil, []int{1}), 0}, {of(nil, []int{0, 2}), 0},
	} {
		if got := dag.Depth(c.l); got != c.want {
			t.Errorf("Depth(%v): %d, not %d", c.l, got, c.want)
		}
	}
}

// 11.1, Ahead: rows written out: all that it needs, by whatever way, without
// itself and what needs it.
func TestAhead(t *testing.T) {
	l := of([]int{4}, nil, []int{0, 1}, []int{2}, nil, []int{1})
	for _, c := range []struct {
		node int
		want []int
	}{
		{0, []int{4}}, {1, nil}, {2, []int{0, 1, 4}}, {3, []int{0, 1, 2, 4}}, {4, nil}, {5, []int{1}},
		{6, nil}, {7, nil}, {8, nil}, {-1, nil}, {math.MaxInt, nil}, {math.MinInt, nil}, {256, nil}, {1<<32 + 3, nil},
	} {
		if got := dag.Ahead(l, c.node); !slices.Equal(got, c.want) {
			t.Errorf("Ahead(%d): %v, not %v", c.node, got, c.want)
		}
	}
	for _, l := range [][]api.Def{nil, {}, {{}}, append(l, free(3)...), append(l, of([]int{6})...), append(l, of([]int{7})...), append(l, of([]int{1, 0})...)} {
		for _, node := range nodes {
			if got := dag.Ahead(l, node); len(got) != 0 {
				t.Errorf("Ahead(%v, %d): %v", l, node, got)
			}
		}
	}
}

// graph answers so many nodes whose Needs are the bits of which, node by node.
func graph(count, which int) []api.Def {
	l := free(count)
	for k := range count * count {
		if which>>k&1 == 1 {
			l[k/count].Needs = append(l[k/count].Needs, k%count)
		}
	}
	return l
}

// 11.1: all calls, of each graph of up to three nodes, with each done of up to
// five, and of each of four nodes.
func TestEveryGraph(t *testing.T) {
	all := dones(5)
	for count := range 4 {
		for which := range 1 << (count * count) {
			holds(t, graph(count, which), all)
		}
	}
	for which := range 1 << 16 {
		holds(t, graph(4, which), all[15:31])
	}
}

// first answers the first of all orders of the nodes, as numbers go, in which
// each stands behind those that it needs.
func first(l []api.Def, ahead []int) []int {
	if len(ahead) == len(l) {
		return ahead
	}
	for node := range l {
		if slices.Contains(ahead, node) || !come(l[node].Needs, ahead) {
			continue
		}
		if order := first(l, append(slices.Clone(ahead), node)); order != nil {
			return order
		}
	}
	return nil
}

// picked answers up to MaxNodes nodes. Most of them need those alone that
// stand ahead of them in an order that is picked, too; some need any.
func picked(pick *rand.Rand) []api.Def {
	l := free(1 + pick.Intn(api.MaxNodes))
	order, dense, any := pick.Perm(len(l)), 1+pick.Intn(6), pick.Intn(4) == 0
	for k, node := range order {
		for j, need := range order {
			if pick.Intn(6) < dense && j < k || any && pick.Intn(20) == 0 {
				l[node].Needs = append(l[node].Needs, need)
			}
		}
		slices.Sort(l[node].Needs)
		l[node].Tries, l[node].Lease = 1+pick.Intn(api.MaxTries), 1+pick.Intn(api.MaxSpan)
	}
	return l
}

// 11.1: all calls, of picked graphs of up to eight nodes, with each done.
func TestPickedGraphs(t *testing.T) {
	pick := rand.New(rand.NewSource(11))
	all := append(dones(8)[255:], dones(3)...)
	all = append(all, slices.Repeat([]bool{true}, 100), make([]bool, 100), append(make([]bool, 8), true))
	checks := make([]int, api.ErrCycle+1)
	for range 2000 {
		l := picked(pick)
		holds(t, l, all)
		errno := dag.Check(l)
		checks[errno]++
		if errno != api.OK {
			continue
		}
		if order, _ := dag.Order(l); !slices.Equal(order, first(l, nil)) {
			t.Fatalf("Order(%v): %v", l, order)
		}
	}
	if checks[api.OK] < 500 || checks[api.ErrCycle] < 100 {
		t.Errorf("picked are %v", checks)
	}
}

// 11.1: all calls, of lists of which one number is turned, where there is a
// circle and where there is none.
func TestOneTurned(t *testing.T) {
	edges := slices.Clone(nodes)
	for _, n := range []int{api.MaxSpan, 1 << 8, 1 << 16, 1 << 31, 1 << 32, 1 << 40, 1 << 62} {
		edges = append(edges, n-1, n, n+1)
	}
	for _, l := range [][]api.Def{
		of([]int{1, 2}, []int{2}, nil), of(nil, nil, []int{0, 1}), of([]int{1}, nil, []int{1, 2}),
		of(nil, []int{0}, []int{0, 1}, []int{0, 1, 2}, nil, nil, nil, []int{0, 1, 2, 3, 4, 5, 6}),
	} {
		holds(t, l, dones(4))
		for k := range l {
			for _, n := range edges {
				turned := copied(l)
				turned[k].Tries = n
				holds(t, turned, dones(1))
				turned[k].Tries, turned[k].Lease = 1, n
				holds(t, turned, dones(1))
				for need := range l[k].Needs {
					turned = copied(l)
					turned[k].Needs[need] = n
					holds(t, turned, dones(1))
				}
			}
		}
	}
}

// 11.1: all calls, of each list of one to three nodes whose Needs are up to
// two numbers, rising or not.
func TestEveryNeeds(t *testing.T) {
	needs := [][]int{nil}
	for a := -1; a <= 3; a++ {
		needs = append(needs, []int{a})
		for b := -1; b <= 3; b++ {
			needs = append(needs, []int{a, b})
		}
	}
	all := dones(1)
	for _, a := range needs {
		holds(t, of(a), all)
		for _, b := range needs {
			holds(t, of(a, b), all)
			for _, c := range needs {
				holds(t, of(a, b, c), all)
			}
		}
	}
}

// 11.1 and R1: long lists, of nodes, of Needs and of done.
func TestLong(t *testing.T) {
	rising := make([]int, 1<<16)
	for k := range rising {
		rising[k] = k
	}
	done := make([]bool, 1<<20)
	for _, l := range [][]api.Def{free(1 << 16), of(rising), of(nil, nil, rising), of(rising[:8], nil, nil, nil, nil, nil, nil, nil), of(make([]int, 1<<16))} {
		holds(t, l, [][]bool{done, nil})
	}
	holds(t, of([]int{1}, nil), [][]bool{done})
}

// spare answers l with room behind it, in which x stands.
func spare[T any](l []T, x T) []T {
	out := append(slices.Clone(l), x, x, x)
	return out[:len(l)]
}

// 11.1 and R2: no call turns what it is given, nor its spare room, and what it
// answers shares no memory with it, nor with what it answers again.
func TestMemory(t *testing.T) {
	was := of([]int{3}, nil, []int{0, 1}, nil)
	l := copied(was)
	for k := range l {
		l[k].Needs = spare(l[k].Needs, 77)
	}
	l = spare(l, api.Def{Tries: 77, Lease: 77})
	done := spare([]bool{false, true}, true)
	ask := func() [][]int {
		dag.Check(l)
		dag.Depth(l)
		order, _ := dag.Order(l)
		return [][]int{order, dag.Ready(l, done), dag.Ready(l, nil), dag.Ahead(l, 0), dag.Ahead(l, 2), dag.Ahead(l, 3)}
	}
	want := [][]int{{1, 3, 0, 2}, {3}, {1, 3}, {3}, {0, 1, 3}, nil}
	got := ask()
	for _, answer := range ask() {
		for k := range answer[:cap(answer)] {
			answer[:cap(answer)][k] = 55
		}
	}
	for _, answers := range [][][]int{got, ask()} {
		if !slices.EqualFunc(answers, want, slices.Equal[[]int]) {
			t.Errorf("%v, not %v", answers, want)
		}
	}
	if !same(l, was) || !slices.Equal(done, []bool{false, true}) {
		t.Errorf("%v and %t were turned", l, done)
	}
	for _, d := range l[:len(l)+3][len(l):] {
		if d.Tries != 77 || d.Lease != 77 || d.Needs != nil {
			t.Error("the nodes' spare room was turned")
		}
	}
	for _, d := range l {
		if !slices.Equal(d.Needs[:len(d.Needs)+3][len(d.Needs):], []int{77, 77, 77}) {
			t.Error("the Needs' spare room was turned")
		}
	}
	if !slices.Equal(done[:5][2:], []bool{true, true, true}) {
		t.Error("done's spare room was turned")
	}
	for k := range l {
		for n := range l[k].Needs {
			l[k].Needs[n] = 55
		}
		l[k] = api.Def{}
	}
	if !slices.EqualFunc(got, want, slices.Equal[[]int]) {
		t.Errorf("%v, when the nodes were turned", got)
	}
}
