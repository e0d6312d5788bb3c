package event_test

import (
	"bytes"
	"encoding/binary"
	"math"
	"slices"
	"strings"
	"testing"

	"cutover/api"
	"cutover/event"
	"cutover/version"
)

// kinds are the twelve types.
var kinds = []int{
	api.Started, api.Begun, api.Done, api.Broke, api.Armed, api.Fired,
	api.Signaled, api.CancelAsked, api.Completed, api.Failed, api.Canceled, api.Terminated,
}

// named tells for each type which fields 10.1 names: d Defs, o Node, n N as a
// try, s N as a span, m Name, a Data.
var named = map[int]string{
	api.Started: "d", api.Begun: "on", api.Done: "ona", api.Broke: "on",
	api.Armed: "ms", api.Fired: "m", api.Signaled: "ma",
	api.CancelAsked: "", api.Completed: "", api.Failed: "", api.Canceled: "", api.Terminated: "",
}

// in answers whether n is least, most or between them.
func in(n, least, most int) bool { return least <= n && n <= most }

// right is 10.1's Right by its words, field by field.
func right(e api.Event) bool {
	fields, there := named[e.Type]
	has := func(field string) bool { return strings.Contains(fields, field) }
	ok := there && in(e.ID, 1, api.MaxEvents) && version.Right(e.Version) && in(e.Time, 0, api.MaxTime)
	if has("o") {
		ok = ok && in(e.Node, 0, api.MaxNodes-1)
	} else {
		ok = ok && e.Node == 0
	}
	if has("n") {
		ok = ok && in(e.N, 1, api.MaxTries)
	} else if has("s") {
		ok = ok && in(e.N, 1, api.MaxSpan)
	} else {
		ok = ok && e.N == 0
	}
	if has("m") {
		ok = ok && name(e.Name)
	} else {
		ok = ok && e.Name == ""
	}
	if has("a") {
		ok = ok && len(e.Data) <= api.MaxData
	} else {
		ok = ok && len(e.Data) == 0
	}
	if has("d") {
		return ok && defs(e.Defs)
	}
	return ok && len(e.Defs) == 0
}

// name is 10.1's IsName by its words.
func name(s string) bool {
	return s != "" && len(s) <= api.MaxName && strings.Trim(s, "abcdefghijklmnopqrstuvwxyz0123456789-") == "" &&
		len(strings.FieldsFunc(s, func(r rune) bool { return !strings.ContainsRune("abcdefghijklmnopqrstuvwxyz0123456789-", r) })) == 1
}

// defs are what 10.1 says of Started's Defs.
func defs(l []api.Def) bool {
	ok := in(len(l), 1, api.MaxNodes)
	for _, d := range l {
		ok = ok && in(d.Tries, 1, api.MaxTries) && in(d.Lease, 1, api.MaxSpan)
		for k, n := range d.Needs {
			ok = ok && in(n, 0, len(l)-1) && (k == 0 || d.Needs[k-1] < n)
		}
	}
	return ok
}

// of answers an event of a type that names nothing yet.
func of(kind int) api.Event {
	return api.Event{ID: 3, Version: 12, Time: 50, Type: kind}
}

// full answers nodes of which the last has all of them as Needs, and each one
// ahead of it one less.
func full(nodes int) []api.Def {
	l := make([]api.Def, nodes)
	for k := range l {
		l[k] = api.Def{Tries: k%api.MaxTries + 1, Lease: 1 + k*1000}
		for n := range k + 1 {
			l[k].Needs = append(l[k].Needs, n)
		}
	}
	return l
}

// filled answers an event of a type with all that the type names.
func filled(kind int) api.Event {
	e := of(kind)
	fields := named[kind]
	if strings.Contains(fields, "o") {
		e.Node = 6
	}
	if strings.ContainsAny(fields, "ns") {
		e.N = 4
	}
	if strings.Contains(fields, "m") {
		e.Name = "name-1"
	}
	if strings.Contains(fields, "a") {
		e.Data = []byte{7, 0, 255}
	}
	if strings.Contains(fields, "d") {
		e.Defs = full(3)
	}
	return e
}

// with answers e, turned.
func with(e api.Event, turn func(e *api.Event)) api.Event {
	e = event.Copy(e)
	turn(&e)
	return e
}

// edges are numbers about those at which a field turns.
func edges() []int {
	l := []int{math.MinInt, math.MinInt + 1, math.MaxInt - 1, math.MaxInt}
	for _, n := range []int{0, api.MaxNodes, api.MaxTries, api.MaxEvents, 1 << 8, 1 << 16, api.MaxSpan, 1 << 32, api.MaxTime} {
		for i := -12; i <= 12; i++ {
			l = append(l, n+i)
		}
	}
	return l
}

// datas are bytes about the most that there may be.
func datas() [][]byte {
	return [][]byte{nil, {}, {0}, []byte("data"), bytes.Repeat([]byte{255}, api.MaxData), make([]byte, api.MaxData+1), make([]byte, 1<<16)}
}

// texts are names and others.
func texts() []string {
	return []string{"", "a", "-", "a-1", "z9-", "A", "a b", "é", "a\x00", "a\xff",
		strings.Repeat("z", api.MaxName), strings.Repeat("z", api.MaxName+1), strings.Repeat("-", 1<<16)}
}

// nodes are lists of Defs, right ones and wrong ones.
func nodes() [][]api.Def {
	l := [][]api.Def{nil, {}, {{}}, {{Tries: 1, Lease: 1}}, {{Tries: 1, Lease: 1, Needs: []int{}}}}
	for n := 1; n <= api.MaxNodes+1; n++ {
		l = append(l, full(n))
	}
	l = append(l, full(255), full(256), full(257))
	for k := range 3 {
		for _, n := range edges() {
			tries, lease, needs, first := full(3), full(3), full(3), full(3)
			tries[k].Tries, lease[k].Lease, needs[k].Needs[k], first[2].Needs[k] = n, n, n, n
			l = append(l, tries, lease, needs, first)
		}
	}
	return l
}

// all are events, right ones and wrong ones: each type with each field turned
// by itself, and some fields turned together.
func all() []api.Event {
	var l []api.Event
	types := append([]int{-1, 0, 13, 14, 256, 257, 264, math.MinInt, math.MaxInt}, kinds...)
	for _, kind := range types {
		e := filled(kind)
		l = append(l, e, of(kind))
		for _, n := range edges() {
			l = append(l,
				with(e, func(e *api.Event) { e.ID = n }), with(e, func(e *api.Event) { e.Version = n }),
				with(e, func(e *api.Event) { e.Time = n }), with(e, func(e *api.Event) { e.Node = n }),
				with(e, func(e *api.Event) { e.N = n }), with(e, func(e *api.Event) { e.Type = n }))
		}
		for _, s := range texts() {
			l = append(l, with(e, func(e *api.Event) { e.Name = s }))
		}
		for _, b := range datas() {
			l = append(l, with(e, func(e *api.Event) { e.Data = b }))
		}
		for _, d := range nodes() {
			l = append(l, with(e, func(e *api.Event) { e.Defs = d }))
		}
		l = append(l, together(kind)...)
	}
	return l
}

// together answers events of a type with every choice of some values.
func together(kind int) []api.Event {
	var l []api.Event
	for _, node := range []int{0, 1, 7, 8} {
		for _, n := range []int{0, 1, 5, 6, api.MaxSpan} {
			for _, s := range []string{"", "a", "A"} {
				for _, b := range [][]byte{nil, {1}, make([]byte, api.MaxData+1)} {
					for _, d := range [][]api.Def{nil, {{Tries: 1, Lease: 1}}, {{}}} {
						e := of(kind)
						e.Node, e.N, e.Name, e.Data, e.Defs = node, n, s, b, d
						l = append(l, e)
					}
				}
			}
		}
	}
	return l
}

// rights are those of all that are right, each once.
func rights() []api.Event {
	var l []api.Event
	seen := map[string]int{}
	for _, e := range all() {
		if right(e) && seen[string(laid(e))] == 0 {
			seen[string(laid(e))]++
			l = append(l, e)
		}
	}
	return l
}

// some are right events of every type, few of them.
func some() []api.Event {
	var l []api.Event
	for _, kind := range kinds {
		l = append(l, filled(kind))
	}
	return append(l,
		with(of(api.Started), func(e *api.Event) { e.Defs = full(api.MaxNodes) }),
		with(of(api.Started), func(e *api.Event) { e.Defs = []api.Def{{Tries: 5, Lease: api.MaxSpan}} }),
		with(of(api.Begun), func(e *api.Event) { e.N = 1 }),
		with(of(api.Done), func(e *api.Event) { e.Node, e.N, e.Data = 7, 5, make([]byte, api.MaxData) }),
		with(of(api.Armed), func(e *api.Event) { e.Name, e.N = "t", api.MaxSpan }),
		with(of(api.Signaled), func(e *api.Event) { e.Name = strings.Repeat("s", api.MaxName) }),
		api.Event{ID: 1, Version: 1, Type: api.CancelAsked},
		api.Event{ID: api.MaxEvents, Version: api.MaxVersion, Time: api.MaxTime, Type: api.Terminated})
}

// laid answers e by 10.2's words, right or not.
func laid(e api.Event) []byte {
	b := binary.BigEndian.AppendUint16(nil, uint16(e.ID))
	b = binary.BigEndian.AppendUint64(b, uint64(e.Version))
	b = binary.BigEndian.AppendUint64(b, uint64(e.Time))
	b = append(b, byte(e.Type), byte(e.Node))
	b = binary.BigEndian.AppendUint64(b, uint64(e.N))
	b = append(binary.BigEndian.AppendUint16(b, uint16(len(e.Name))), e.Name...)
	b = append(binary.BigEndian.AppendUint16(b, uint16(len(e.Data))), e.Data...)
	b = append(b, byte(len(e.Defs)))
	for _, d := range e.Defs {
		b = append(b, byte(d.Tries))
		b = binary.BigEndian.AppendUint64(b, uint64(d.Lease))
		b = append(b, byte(len(d.Needs)))
		for _, n := range d.Needs {
			b = append(b, byte(n))
		}
	}
	return b
}

// laidAll answers events by 10.2's words, each as the bytes that it is told by.
func laidAll(each ...[]byte) []byte {
	b := binary.BigEndian.AppendUint16(nil, uint16(len(each)))
	for _, x := range each {
		b = append(binary.BigEndian.AppendUint16(b, uint16(len(x))), x...)
	}
	return b
}

// front takes n bytes of b; nil and false if there are fewer.
func front(b *[]byte, n int) ([]byte, bool) {
	if len(*b) < n {
		return nil, false
	}
	x := (*b)[:n]
	*b = (*b)[n:]
	return x, true
}

// taker takes numbers off b till they lack.
type taker struct {
	b    []byte
	lack bool
}

func (t *taker) take(n int) []byte {
	x, ok := front(&t.b, n)
	t.lack = t.lack || !ok
	return x
}

func (t *taker) number(size int) int {
	x := t.take(size)
	if t.lack {
		return 0
	}
	return int(binary.BigEndian.Uint64(append(make([]byte, 8-size), x...)))
}

// read is 10.2's Read by its words: there is one way alone to take the fields,
// so what is left is whether something lacks, is over, or may not be.
func read(b []byte) (api.Event, bool) {
	t := &taker{b: b}
	e := api.Event{ID: t.number(2), Version: t.number(8), Time: t.number(8)}
	e.Type, e.Node, e.N = t.number(1), t.number(1), t.number(8)
	e.Name = string(t.take(t.number(2)))
	e.Data = t.take(t.number(2))
	for range t.number(1) {
		d := api.Def{Tries: t.number(1), Lease: t.number(8)}
		for range t.number(1) {
			d.Needs = append(d.Needs, t.number(1))
		}
		e.Defs = append(e.Defs, d)
	}
	return e, !t.lack && len(t.b) == 0 && right(e)
}

// readAll is 10.2's ReadAll by its words.
func readAll(b []byte) ([]api.Event, bool) {
	t := &taker{b: b}
	var l []api.Event
	for range t.number(2) {
		e, ok := read(t.take(t.number(2)))
		if t.lack || !ok {
			return nil, false
		}
		l = append(l, e)
	}
	return l, !t.lack && len(t.b) == 0 && len(l) <= api.MaxEvents
}

// same is 10.1's Same, by bytes: none of these events has a number that its
// bytes don't tell, unless one of the fields that are asked for tells it.
func same(a, b api.Event) bool {
	if a.ID != b.ID || a.Type != b.Type || a.Node != b.Node || len(a.Name) != len(b.Name) || len(a.Data) != len(b.Data) || len(a.Defs) != len(b.Defs) {
		return false
	}
	for k := range a.Defs {
		if a.Defs[k].Tries != b.Defs[k].Tries || !slices.Equal(a.Defs[k].Needs, b.Defs[k].Needs) {
			return false
		}
	}
	return bytes.Equal(laid(a), laid(b))
}

func TestExamples(t *testing.T) {
	for _, c := range []struct {
		s    string
		want bool
	}{{"a-1", true}, {"A", false}, {"", false}} {
		if got := event.IsName(c.s); got != c.want {
			t.Errorf("IsName(%q): %t", c.s, got)
		}
	}
}

// 10.1, IsName: rows written out: each kind of byte, both bounds, and bytes
// beside those that may be.
func TestIsName(t *testing.T) {
	for _, c := range []struct {
		s    string
		want bool
	}{
		{"a", true}, {"z", true}, {"0", true}, {"9", true}, {"-", true}, {"--", true},
		{"-a", true}, {"a-", true}, {"09az-", true}, {"abcdefghijklmnop", true}, {"0123456789-----z", true},
		{"abcdefghijklmnopq", false}, {"", false}, {" ", false}, {"a ", false}, {" a", false},
		{"A", false}, {"Z", false}, {"aB", false}, {"a_b", false}, {"a.b", false}, {"a/b", false},
		{"`", false}, {"{", false}, {"/", false}, {":", false}, {",", false}, {".", false},
		{"\x00", false}, {"a\x00", false}, {"\xff", false}, {"é", false}, {"aé", false}, {"ａ", false}, {"–", false}, {"\n", false},
	} {
		if got := event.IsName(c.s); got != c.want {
			t.Errorf("IsName(%q): %t", c.s, got)
		}
	}
}

// 10.1, IsName: each byte at each place of each length.
func TestIsNameBytes(t *testing.T) {
	for size := 1; size <= api.MaxName+3; size++ {
		for place := range size {
			for x := range 256 {
				b := bytes.Repeat([]byte("m"), size)
				b[place] = byte(x)
				may := in(x, 'a', 'z') || in(x, '0', '9') || x == '-'
				if got := event.IsName(string(b)); got != (may && size <= api.MaxName) {
					t.Fatalf("IsName(%q): %t", b, got)
				}
			}
		}
	}
}

// 10.1, Closes: four types, and no other number.
func TestCloses(t *testing.T) {
	for _, c := range []struct {
		kind int
		want bool
	}{
		{api.Started, false}, {api.Begun, false}, {api.Done, false}, {api.Broke, false},
		{api.Armed, false}, {api.Fired, false}, {api.Signaled, false}, {api.CancelAsked, false},
		{api.Completed, true}, {api.Failed, true}, {api.Canceled, true}, {api.Terminated, true},
		{0, false}, {13, false}, {-1, false}, {-9, false}, {256 + api.Completed, false},
		{math.MaxInt, false}, {math.MinInt, false}, {math.MinInt + api.Completed, false},
	} {
		if got := event.Closes(c.kind); got != c.want {
			t.Errorf("Closes(%d): %t", c.kind, got)
		}
	}
}

// 10.1, Right: ID, Version and Time of each type, at both bounds and past them.
func TestRightHead(t *testing.T) {
	for _, kind := range kinds {
		for _, c := range []struct {
			id, version, time int
			want              bool
		}{
			{1, 1, 0, true}, {200, 8, 1 << 40, true}, {7, 12, 1, true}, {7, 1 << 40, 1<<40 - 1, true},
			{0, 1, 0, false}, {-1, 1, 0, false}, {201, 1, 0, false}, {1<<16 + 1, 1, 0, false},
			{math.MaxInt, 1, 0, false}, {math.MinInt, 1, 0, false},
			{1, 0, 0, false}, {1, 9, 0, false}, {1, 10, 0, false}, {1, -9, 0, false}, {1, 1<<40 + 1, 0, false},
			{1, 1<<40 + 5, 0, false}, {1, 1, -1, false}, {1, 1, 1<<40 + 1, false}, {1, 1, math.MaxInt, false}, {1, 1, math.MinInt, false},
		} {
			e := filled(kind)
			e.ID, e.Version, e.Time = c.id, c.version, c.time
			if got := event.Right(e); got != c.want {
				t.Errorf("Right(%+v): %t", e, got)
			}
		}
	}
	if event.Right(api.Event{}) {
		t.Error("Right of none")
	}
}

// 10.1, Right: what each type names, rows written out.
func TestRightTypes(t *testing.T) {
	ten, forty, more := []byte("0123456789"), make([]byte, 40), make([]byte, 41)
	node := []api.Def{{Tries: 1, Lease: 1}}
	for _, c := range []struct {
		e    api.Event
		want bool
	}{
		{api.Event{Type: api.Started, Defs: node}, true}, {api.Event{Type: api.Started, Defs: full(8)}, true},
		{api.Event{Type: api.Started}, false}, {api.Event{Type: api.Started, Defs: []api.Def{}}, false},
		{api.Event{Type: api.Started, Defs: append(full(8), node...)}, false},
		{api.Event{Type: api.Started, Defs: node, Node: 1}, false}, {api.Event{Type: api.Started, Defs: node, N: 1}, false},
		{api.Event{Type: api.Started, Defs: node, Name: "a"}, false}, {api.Event{Type: api.Started, Defs: node, Data: ten}, false},
		{api.Event{Type: api.Started, Defs: node, Data: []byte{}}, true},

		{api.Event{Type: api.Begun, N: 1}, true}, {api.Event{Type: api.Begun, Node: 7, N: 5}, true},
		{api.Event{Type: api.Begun, N: 0}, false}, {api.Event{Type: api.Begun, N: 6}, false}, {api.Event{Type: api.Begun, N: -1}, false},
		{api.Event{Type: api.Begun, Node: 8, N: 1}, false}, {api.Event{Type: api.Begun, Node: -1, N: 1}, false},
		{api.Event{Type: api.Begun, N: 1, Data: ten}, false}, {api.Event{Type: api.Begun, N: 1, Name: "a"}, false},
		{api.Event{Type: api.Begun, N: 1, Defs: node}, false}, {api.Event{Type: api.Begun, N: 1, Data: []byte{}, Defs: []api.Def{}}, true},

		{api.Event{Type: api.Broke, N: 1}, true}, {api.Event{Type: api.Broke, Node: 7, N: 5}, true},
		{api.Event{Type: api.Broke, N: 0}, false}, {api.Event{Type: api.Broke, N: 6}, false},
		{api.Event{Type: api.Broke, Node: 8, N: 1}, false}, {api.Event{Type: api.Broke, Node: -1, N: 1}, false},
		{api.Event{Type: api.Broke, N: 1, Data: ten}, false}, {api.Event{Type: api.Broke, N: 1, Name: "a"}, false},
		{api.Event{Type: api.Broke, N: 1, Defs: node}, false},

		{api.Event{Type: api.Done, N: 1}, true}, {api.Event{Type: api.Done, Node: 7, N: 5, Data: forty}, true},
		{api.Event{Type: api.Done, N: 1, Data: more}, false}, {api.Event{Type: api.Done, N: 0}, false}, {api.Event{Type: api.Done, N: 6}, false},
		{api.Event{Type: api.Done, Node: 8, N: 1}, false}, {api.Event{Type: api.Done, Node: -1, N: 1}, false},
		{api.Event{Type: api.Done, N: 1, Name: "a"}, false}, {api.Event{Type: api.Done, N: 1, Defs: node}, false},

		{api.Event{Type: api.Armed, Name: "a", N: 1}, true}, {api.Event{Type: api.Armed, Name: "0123456789abcdef", N: 1 << 20}, true},
		{api.Event{Type: api.Armed, Name: "a", N: 0}, false}, {api.Event{Type: api.Armed, Name: "a", N: 1<<20 + 1}, false}, {api.Event{Type: api.Armed, Name: "a", N: -1}, false},
		{api.Event{Type: api.Armed, N: 1}, false}, {api.Event{Type: api.Armed, Name: "A", N: 1}, false}, {api.Event{Type: api.Armed, Name: "0123456789abcdefg", N: 1}, false},
		{api.Event{Type: api.Armed, Name: "a", N: 1, Node: 1}, false}, {api.Event{Type: api.Armed, Name: "a", N: 1, Data: ten}, false},
		{api.Event{Type: api.Armed, Name: "a", N: 1, Defs: node}, false},

		{api.Event{Type: api.Fired, Name: "a"}, true}, {api.Event{Type: api.Fired}, false}, {api.Event{Type: api.Fired, Name: "A"}, false},
		{api.Event{Type: api.Fired, Name: "a", N: 1}, false}, {api.Event{Type: api.Fired, Name: "a", Node: 1}, false},
		{api.Event{Type: api.Fired, Name: "a", Data: ten}, false}, {api.Event{Type: api.Fired, Name: "a", Defs: node}, false},

		{api.Event{Type: api.Signaled, Name: "a"}, true}, {api.Event{Type: api.Signaled, Name: "a", Data: forty}, true},
		{api.Event{Type: api.Signaled, Name: "a", Data: more}, false}, {api.Event{Type: api.Signaled, Data: ten}, false},
		{api.Event{Type: api.Signaled, Name: "a.b", Data: ten}, false}, {api.Event{Type: api.Signaled, Name: "a", N: 1}, false},
		{api.Event{Type: api.Signaled, Name: "a", Node: 1}, false}, {api.Event{Type: api.Signaled, Name: "a", Defs: node}, false},
	} {
		c.e.ID, c.e.Version = 1, 1
		if got := event.Right(c.e); got != c.want {
			t.Errorf("Right(%+v): %t", c.e, got)
		}
	}
	for _, kind := range []int{api.CancelAsked, api.Completed, api.Failed, api.Canceled, api.Terminated} {
		bare := of(kind)
		if !event.Right(bare) {
			t.Errorf("Right(%+v): false", bare)
		}
		for k, turn := range []func(e *api.Event){
			func(e *api.Event) { e.Node = 1 }, func(e *api.Event) { e.N = 1 }, func(e *api.Event) { e.Name = "a" },
			func(e *api.Event) { e.Data = ten }, func(e *api.Event) { e.Defs = node },
		} {
			if event.Right(with(bare, turn)) {
				t.Errorf("Right of type %d with field %d", kind, k)
			}
		}
	}
	for _, kind := range []int{0, 13, -1, 256 + api.CancelAsked, math.MaxInt, math.MinInt} {
		if event.Right(of(kind)) {
			t.Errorf("Right of type %d", kind)
		}
	}
}

// 10.1, Right: Defs, rows written out: Needs rise, and are nodes, the node
// itself or one behind it not left out.
func TestRightDefs(t *testing.T) {
	needs := func(n int, l ...int) []api.Def {
		d := make([]api.Def, n)
		for k := range d {
			d[k] = api.Def{Tries: 1, Lease: 1}
		}
		d[0].Needs = l
		return d
	}
	for _, c := range []struct {
		l    []api.Def
		want bool
	}{
		{[]api.Def{{Tries: 5, Lease: 1 << 20}}, true}, {[]api.Def{{Tries: 0, Lease: 1}}, false}, {[]api.Def{{Tries: 6, Lease: 1}}, false},
		{[]api.Def{{Tries: -1, Lease: 1}}, false}, {[]api.Def{{Tries: 1, Lease: 0}}, false}, {[]api.Def{{Tries: 1, Lease: -1}}, false}, {[]api.Def{{Tries: 1, Lease: 1<<20 + 1}}, false},
		{needs(1, 0), true}, {needs(1, 1), false}, {needs(1, -1), false}, {needs(1, 0, 0), false},
		{needs(2, 1), true}, {needs(2, 0, 1), true}, {needs(2, 1, 0), false}, {needs(2, 1, 1), false}, {needs(2, 0, 2), false}, {needs(2, 2), false},
		{needs(3, 0, 2), true}, {needs(3, 2, 0), false}, {needs(3, 0, 2, 1), false}, {needs(3, 0, 1, 2, 3), false},
		{needs(8, 0, 1, 2, 3, 4, 5, 6, 7), true}, {needs(8, 7), true}, {needs(8, 8), false}, {needs(8, math.MaxInt), false}, {needs(8, math.MinInt), false},
		{append(needs(7), api.Def{Tries: 1, Lease: 1, Needs: []int{8}}), false}, {append(needs(7), api.Def{Tries: 1, Lease: 1, Needs: []int{7}}), true},
		{append(needs(2), api.Def{}), false}, {append(needs(2), api.Def{Tries: 1, Lease: 1, Needs: []int{2, 2}}), false},
	} {
		e := of(api.Started)
		e.Defs = c.l
		if got := event.Right(e); got != c.want {
			t.Errorf("Right with %+v: %t", c.l, got)
		}
	}
}

// 10.1, Right: every event of all, by the chapter's words.
func TestRightModel(t *testing.T) {
	count := [2]int{}
	for _, e := range all() {
		want := right(e)
		if got := event.Right(e); got != want {
			t.Fatalf("Right(%+v): %t", e, got)
		}
		if want {
			count[1]++
		}
		count[0]++
	}
	if count[1] < 500 || count[0] < 2*count[1] {
		t.Errorf("few events: %d, of which %d are right", count[0], count[1])
	}
}

// 10.1, Right: every list of up to three Needs, at each place, behind every
// count of Defs.
func TestRightNeeds(t *testing.T) {
	lists := [][]int{nil}
	for begin, size := 0, 0; size < 3; size++ {
		end := len(lists)
		for _, l := range lists[begin:end] {
			for n := -1; n <= api.MaxNodes+1; n++ {
				lists = append(lists, append(slices.Clone(l), n))
			}
		}
		begin = end
	}
	for count := 1; count <= api.MaxNodes+1; count++ {
		for place := range count {
			e := of(api.Started)
			e.Defs = full(count)
			for _, l := range lists {
				e.Defs[place].Needs = l
				if got := event.Right(e); got != right(e) {
					t.Fatalf("Right with %d nodes, of which %d needs %v: %t", count, place, l, got)
				}
			}
		}
	}
}

// at answers a right event that stands at this place.
func at(id, version, time int) api.Event {
	return api.Event{ID: id, Version: version, Time: time, Type: api.CancelAsked}
}

// 10.1, Line: rows written out.
func TestLine(t *testing.T) {
	wrong := at(6, 1, 0)
	wrong.N = 1
	for k, c := range []struct {
		l    []api.Event
		want bool
	}{
		{nil, true}, {[]api.Event{}, true}, {[]api.Event{at(1, 1, 0)}, true}, {[]api.Event{at(200, 1, 0)}, true},
		{[]api.Event{{}}, false}, {[]api.Event{at(0, 1, 0)}, false}, {[]api.Event{at(1, 9, 0)}, false}, {[]api.Event{wrong}, false},
		{[]api.Event{at(5, 1, 0), at(6, 1, 0)}, true}, {[]api.Event{at(5, 1, 0), at(7, 1, 0)}, false},
		{[]api.Event{at(5, 1, 0), at(5, 1, 0)}, false}, {[]api.Event{at(5, 1, 0), at(4, 1, 0)}, false},
		{[]api.Event{at(5, 1, 0), at(6, 2, 0)}, true}, {[]api.Event{at(5, 2, 0), at(6, 1, 0)}, false},
		{[]api.Event{at(5, 12, 0), at(6, 11, 0)}, false}, {[]api.Event{at(5, 18, 0), at(6, 21, 0)}, true},
		{[]api.Event{at(5, 1, 3), at(6, 1, 4)}, true}, {[]api.Event{at(5, 1, 3), at(6, 1, 2)}, false}, {[]api.Event{at(5, 1, 3), at(6, 12, 2)}, false},
		{[]api.Event{at(5, 1, 0), wrong}, false}, {[]api.Event{wrong, at(7, 1, 0)}, false},
		{[]api.Event{at(5, 1, 0), at(6, 1, 0), at(7, 1, 0)}, true}, {[]api.Event{at(5, 1, 0), at(6, 12, 0), at(7, 1, 0)}, false},
		{[]api.Event{at(5, 1, 0), at(6, 1, 5), at(7, 1, 4)}, false}, {[]api.Event{at(5, 1, 0), at(6, 1, 0), at(8, 1, 0)}, false},
		{[]api.Event{at(5, 1, 0), at(7, 1, 0), at(8, 1, 0)}, false}, {[]api.Event{at(5, 1, 0), wrong, at(7, 1, 0)}, false},
		{[]api.Event{at(199, 1, 0), at(200, 1, 0)}, true}, {[]api.Event{at(199, 1, 0), at(200, 1, 0), at(201, 1, 0)}, false},
	} {
		if got := event.Line(c.l); got != c.want {
			t.Errorf("Line %d: %t", k, got)
		}
	}
}

// 10.1, Line: types and what they name are not asked for beyond Right: it is
// no matter which stands behind which.
func TestLineTypes(t *testing.T) {
	for _, a := range kinds {
		for _, b := range kinds {
			l := []api.Event{filled(a), filled(b)}
			l[1].ID++
			if !event.Line(l) {
				t.Errorf("Line of types %d, %d", a, b)
			}
		}
	}
}

// branch answers a line of all of a branch's events.
func branch() []api.Event {
	var l []api.Event
	for k := range api.MaxEvents {
		e := filled(kinds[k%len(kinds)])
		e.ID, e.Version, e.Time = k+1, api.Increment*(k/3)+1, k/2
		l = append(l, e)
	}
	return l
}

// 10.1, Line: a whole branch, its parts, and each of its events turned.
func TestLineTurned(t *testing.T) {
	l := branch()
	if !event.Line(l) {
		t.Fatal("Line of a branch")
	}
	for k := range l {
		if !event.Line(l[k:]) || !event.Line(l[:k]) {
			t.Fatalf("Line of what stands about event %d", k+1)
		}
		if k > 0 && event.Line(slices.Delete(slices.Clone(l), k, k+1)) != (k == len(l)-1) {
			t.Fatalf("Line without event %d", k+1)
		}
		for n, turn := range []func(e *api.Event){
			func(e *api.Event) { e.ID++ }, func(e *api.Event) { e.ID-- }, func(e *api.Event) { e.Version = 9 },
			func(e *api.Event) { e.Version = 0 }, func(e *api.Event) { e.Time = -1 }, func(e *api.Event) { e.Type = 0 },
			func(e *api.Event) { e.Node = 8 }, func(e *api.Event) { e.Name = "A" },
		} {
			turned := slices.Clone(l)
			if turn(&turned[k]); event.Line(turned) {
				t.Fatalf("Line with event %d turned, %d", k+1, n)
			}
		}
		for _, v := range []int{-10, -20, 10, 20, -1, 1} {
			turned := slices.Clone(l)
			turned[k].Version += v
			turned[k].Time += v
			want := right(turned[k])
			for n := 1; n < len(l); n++ {
				want = want && turned[n].Version >= turned[n-1].Version && turned[n].Time >= turned[n-1].Time
			}
			if event.Line(turned) != want {
				t.Fatalf("Line with event %d moved by %d: %t", k+1, v, !want)
			}
		}
	}
}

// 10.1, Same: each field by itself makes events unlike, of right and of wrong
// ones, and nothing else does.
func TestSame(t *testing.T) {
	for _, e := range append(some(), api.Event{}, api.Event{Type: -7, N: math.MinInt, Name: "A", Data: make([]byte, 99), Defs: []api.Def{{}, {Needs: []int{-1, -1}}}}) {
		if !event.Same(e, e) || !event.Same(e, event.Copy(e)) || !event.Same(event.Copy(e), e) {
			t.Fatalf("Same of %+v and itself", e)
		}
		for k, turn := range []func(e *api.Event){
			func(e *api.Event) { e.ID++ }, func(e *api.Event) { e.ID += 1 << 16 }, func(e *api.Event) { e.Version += 10 }, func(e *api.Event) { e.Time++ },
			func(e *api.Event) { e.Type++ }, func(e *api.Event) { e.Type += 256 }, func(e *api.Event) { e.Node++ }, func(e *api.Event) { e.N++ },
			func(e *api.Event) { e.Name += "x" }, func(e *api.Event) { e.Name = "other" }, func(e *api.Event) { e.Data = append(e.Data, 0) },
			func(e *api.Event) { e.Data = append([]byte{7}, e.Data...) }, func(e *api.Event) { e.Defs = append(e.Defs, api.Def{}) },
			func(e *api.Event) { e.Defs = append([]api.Def{{Tries: 1, Lease: 7}}, e.Defs...) },
		} {
			x := with(e, turn)
			if event.Same(e, x) || event.Same(x, e) {
				t.Errorf("Same of %+v, turned by %d", e, k)
			}
		}
		for k := range e.Data {
			x := with(e, func(e *api.Event) { e.Data[k]++ })
			y := with(e, func(e *api.Event) { e.Data = slices.Delete(e.Data, k, k+1) })
			if event.Same(e, x) || event.Same(x, e) || event.Same(e, y) || event.Same(y, e) {
				t.Errorf("Same of %+v, byte %d turned or taken", e, k)
			}
		}
		for k := range e.Defs {
			for n, turn := range []func(e *api.Event){
				func(e *api.Event) { e.Defs[k].Tries++ }, func(e *api.Event) { e.Defs[k].Lease++ },
				func(e *api.Event) { e.Defs[k].Needs = append(e.Defs[k].Needs, 7) }, func(e *api.Event) { e.Defs = slices.Delete(e.Defs, k, k+1) },
				func(e *api.Event) { e.Defs[k].Needs = append([]int{-3}, e.Defs[k].Needs...) },
			} {
				x := with(e, turn)
				if event.Same(e, x) || event.Same(x, e) {
					t.Errorf("Same of %+v, node %d turned by %d", e, k, n)
				}
			}
			for n := range e.Defs[k].Needs {
				x := with(e, func(e *api.Event) { e.Defs[k].Needs[n]++ })
				if event.Same(e, x) || event.Same(x, e) {
					t.Errorf("Same of %+v, need %d of node %d turned", e, n, k)
				}
			}
		}
	}
}

// 10.1 with R2: a list that is nil is as one that is empty.
func TestSameEmpty(t *testing.T) {
	a := api.Event{ID: 1, Defs: []api.Def{{Tries: 1}}}
	b := api.Event{ID: 1, Data: []byte{}, Defs: []api.Def{{Tries: 1, Needs: []int{}}}}
	if !event.Same(a, b) || !event.Same(b, a) {
		t.Error("Same of nil and empty lists")
	}
	if !event.Same(api.Event{}, api.Event{Data: []byte{}, Defs: []api.Def{}}) {
		t.Error("Same of nil and empty Defs")
	}
	if !event.SameAll(nil, []api.Event{}) || !event.SameAll([]api.Event{}, nil) || !event.SameAll(nil, nil) {
		t.Error("SameAll of nil and an empty list")
	}
}

// 10.1, Same: each pair of events, right and wrong.
func TestSamePairs(t *testing.T) {
	l := append(some(), together(api.Signaled)...)
	for _, e := range filled(api.Started).Defs {
		l = append(l, api.Event{Type: api.Started, Defs: []api.Def{e}}, api.Event{Type: api.Started, Defs: []api.Def{e, e}})
	}
	for _, a := range l {
		for _, b := range l {
			if got := event.Same(a, b); got != same(a, b) {
				t.Fatalf("Same(%+v, %+v): %t", a, b, got)
			}
		}
	}
}

// 10.1, SameAll: place by place, and as many.
func TestSameAll(t *testing.T) {
	l := append(some(), api.Event{}, api.Event{Type: 99})
	if !event.SameAll(l, event.CopyAll(l)) {
		t.Error("SameAll of a list and its copy")
	}
	for k := range l {
		if event.SameAll(l, l[:k]) || event.SameAll(l[:k], l) || k > 0 && (event.SameAll(l, l[k:]) || event.SameAll(l[k:], l)) {
			t.Errorf("SameAll of a list and its part by %d", k)
		}
		turned := event.CopyAll(l)
		turned[k].Time++
		if event.SameAll(l, turned) || event.SameAll(turned, l) {
			t.Errorf("SameAll with event %d turned", k)
		}
		if k > 0 {
			turned = event.CopyAll(l)
			turned[k], turned[k-1] = turned[k-1], turned[k]
			if event.SameAll(l, turned) {
				t.Errorf("SameAll with events %d and %d in each other's place", k, k-1)
			}
		}
	}
	if event.SameAll(nil, []api.Event{{}}) || event.SameAll([]api.Event{{}}, nil) {
		t.Error("SameAll of none and one that is none")
	}
}

// spare answers l with room behind it, of which each has the value x.
func spare[T any](l []T, x T) []T {
	out := append(slices.Clone(l), x, x, x)
	return out[:len(l)]
}

// roomy answers e, each of its lists with spare room that is not zero.
func roomy(e api.Event) api.Event {
	e = event.Copy(e)
	e.Data = spare(e.Data, 77)
	for k := range e.Defs {
		e.Defs[k].Needs = spare(e.Defs[k].Needs, 77)
	}
	e.Defs = spare(e.Defs, api.Def{Tries: 77, Needs: []int{77}})
	return e
}

// whole answers whether the spare room of roomy's lists is as it was.
func whole(e api.Event) bool {
	ok := true
	for _, x := range e.Data[len(e.Data):][:3] {
		ok = ok && x == 77
	}
	for _, d := range e.Defs {
		for _, n := range d.Needs[len(d.Needs):][:3] {
			ok = ok && n == 77
		}
	}
	for _, d := range e.Defs[len(e.Defs):][:3] {
		ok = ok && d.Tries == 77 && slices.Equal(d.Needs, []int{77})
	}
	return ok
}

// scrawl turns all that e's lists have, their spare room too.
func scrawl(e api.Event) {
	for k := range e.Data[:cap(e.Data)] {
		e.Data[:cap(e.Data)][k] = 201
	}
	for k := range e.Defs[:cap(e.Defs)] {
		d := &e.Defs[:cap(e.Defs)][k]
		for n := range d.Needs[:cap(d.Needs)] {
			d.Needs[:cap(d.Needs)][n] = 201
		}
		d.Tries, d.Lease = 201, 201
	}
}

// odd are events that are not right, with lists that have much in them.
func odd() []api.Event {
	return []api.Event{
		{}, {Type: -7, N: math.MinInt, Name: "A", Data: make([]byte, 99), Defs: []api.Def{{}, {Needs: []int{-1, -1}}}},
		{ID: 1, Type: api.Started, Data: []byte{}, Defs: []api.Def{}}, {Defs: full(12)},
		{ID: 1, Version: 1, Type: api.Signaled, Name: "a", Data: make([]byte, api.MaxData+1)},
	}
}

// 10.1, Copy and CopyAll: alike, in new memory: nothing that is done to the
// copy is seen in the first one, nor the other way round.
func TestCopy(t *testing.T) {
	for _, e := range append(some(), odd()...) {
		first, want := roomy(e), event.Copy(e)
		x, y := event.Copy(first), event.CopyAll([]api.Event{first, first})
		if !same(e, x) || len(y) != 2 || !same(e, y[0]) || !same(e, y[1]) {
			t.Fatalf("Copy(%+v): %+v, %+v", e, x, y)
		}
		scrawl(x)
		if !same(first, want) || !whole(first) || !same(y[0], want) || !same(y[1], want) {
			t.Fatalf("Copy(%+v) shares its lists", e)
		}
		scrawl(y[0])
		if !same(first, want) || !whole(first) || !same(y[1], want) {
			t.Fatalf("CopyAll of %+v shares its lists", e)
		}
		scrawl(first)
		if !same(y[1], want) {
			t.Fatalf("CopyAll of %+v shares the first one's lists", e)
		}
	}
}

// 10.1, Copy with R2: no two nodes of one copy share their Needs, though those
// of the first one do.
func TestCopyShared(t *testing.T) {
	needs := []int{0, 1}
	e := of(api.Started)
	e.Defs = []api.Def{{Tries: 1, Lease: 1, Needs: needs}, {Tries: 1, Lease: 1, Needs: needs}}
	for _, x := range []api.Event{event.Copy(e), event.CopyAll([]api.Event{e})[0]} {
		x.Defs[0].Needs[0] = 9
		x.Defs[0].Needs = append(x.Defs[0].Needs, 9)
		if !slices.Equal(x.Defs[1].Needs, []int{0, 1}) || !slices.Equal(needs, []int{0, 1}) {
			t.Error("two nodes share their Needs")
		}
	}
}

// 10.1, CopyAll: as many, in their places; and the list itself is new.
func TestCopyAll(t *testing.T) {
	l := spare(append(some(), odd()...), api.Event{ID: 77})
	want := event.CopyAll(l)
	x := event.CopyAll(l)
	for k := range l {
		if !same(l[k], x[k]) {
			t.Errorf("CopyAll: event %d: %+v", k, x[k])
		}
	}
	for k := range x[:cap(x)] {
		x[:cap(x)][k] = api.Event{ID: 9}
	}
	if len(x) != len(l) || !event.SameAll(l, want) || l[len(l):][:1][0].ID != 77 {
		t.Error("CopyAll shares its list")
	}
	if len(event.CopyAll(nil)) != 0 || len(event.CopyAll([]api.Event{})) != 0 {
		t.Error("CopyAll of none")
	}
}

// 10.2, Lay: bytes written out, for each type; Read makes the event again.
func TestLay(t *testing.T) {
	head := "\x00\x03" + "\x00\x00\x00\x00\x00\x00\x00\x0c" + "\x00\x00\x00\x00\x00\x00\x00\x32"
	last := "\x00\xc8" + "\x00\x00\x01\x00\x00\x00\x00\x00" + "\x00\x00\x01\x00\x00\x00\x00\x00"
	zero, four := "\x00\x00\x00\x00\x00\x00\x00\x00", "\x00\x00\x00\x00\x00\x00\x00\x04"
	for _, c := range []struct {
		e    api.Event
		want string
	}{
		{filled(api.Begun), head + "\x02\x06" + four + "\x00\x00" + "\x00\x00" + "\x00"},
		{filled(api.Done), head + "\x03\x06" + four + "\x00\x00" + "\x00\x03\x07\x00\xff" + "\x00"},
		{filled(api.Broke), head + "\x04\x06" + four + "\x00\x00" + "\x00\x00" + "\x00"},
		{filled(api.Armed), head + "\x05\x00" + four + "\x00\x06name-1" + "\x00\x00" + "\x00"},
		{filled(api.Fired), head + "\x06\x00" + zero + "\x00\x06name-1" + "\x00\x00" + "\x00"},
		{filled(api.Signaled), head + "\x07\x00" + zero + "\x00\x06name-1" + "\x00\x03\x07\x00\xff" + "\x00"},
		{filled(api.CancelAsked), head + "\x08\x00" + zero + "\x00\x00" + "\x00\x00" + "\x00"},
		{filled(api.Completed), head + "\x09\x00" + zero + "\x00\x00" + "\x00\x00" + "\x00"},
		{filled(api.Failed), head + "\x0a\x00" + zero + "\x00\x00" + "\x00\x00" + "\x00"},
		{filled(api.Canceled), head + "\x0b\x00" + zero + "\x00\x00" + "\x00\x00" + "\x00"},
		{filled(api.Terminated), head + "\x0c\x00" + zero + "\x00\x00" + "\x00\x00" + "\x00"},
		{api.Event{ID: 200, Version: 1 << 40, Time: 1 << 40, Type: api.Armed, Name: "0123456789abcdef", N: 1 << 20},
			last + "\x05\x00" + "\x00\x00\x00\x00\x00\x10\x00\x00" + "\x00\x100123456789abcdef" + "\x00\x00" + "\x00"},
		{api.Event{ID: 3, Version: 12, Time: 50, Type: api.Started, Defs: []api.Def{{Tries: 1, Lease: 258}, {Needs: []int{0, 1}, Tries: 5, Lease: 1 << 20}}},
			head + "\x01\x00" + zero + "\x00\x00" + "\x00\x00" + "\x02" +
				"\x01" + "\x00\x00\x00\x00\x00\x00\x01\x02" + "\x00" +
				"\x05" + "\x00\x00\x00\x00\x00\x10\x00\x00" + "\x02\x00\x01"},
	} {
		b, e := event.Lay(c.e)
		if e != api.OK || string(b) != c.want {
			t.Errorf("Lay(%+v): %x %d", c.e, b, e)
		}
		x, e := event.Read([]byte(c.want))
		if e != api.OK || !same(x, c.e) {
			t.Errorf("Read of %+v: %+v %d", c.e, x, e)
		}
	}
}

// 10.2, Lay and Read: every event of all: a right one there and back, ErrArg
// and no bytes of a wrong one, of whose bytes Read asks the same.
func TestLayModel(t *testing.T) {
	for _, e := range all() {
		b, errno := event.Lay(e)
		if !right(e) {
			if errno != api.ErrArg || len(b) != 0 {
				t.Fatalf("Lay(%+v): %x %d", e, b, errno)
			}
			holds(t, laid(e))
			continue
		}
		if errno != api.OK || !bytes.Equal(b, laid(e)) {
			t.Fatalf("Lay(%+v): %x %d", e, b, errno)
		}
		if x, errno := event.Read(b); errno != api.OK || !same(x, e) {
			t.Fatalf("Read of %+v: %+v %d", e, x, errno)
		}
	}
}

// none answers whether e has nothing.
func none(e api.Event) bool {
	return same(e, api.Event{}) && e.Version == 0 && e.Data == nil && e.Defs == nil
}

// holds asks Read of b what 10.2's words say.
func holds(t *testing.T, b []byte) {
	t.Helper()
	was := slices.Clone(b)
	e, errno := event.Read(b)
	if !bytes.Equal(b, was) {
		t.Fatalf("Read turned %x into %x", was, b)
	}
	want, ok := read(b)
	if ok && (errno != api.OK || !same(e, want)) {
		t.Fatalf("Read(%x): %+v %d, not %+v", b, e, errno, want)
	}
	if !ok && (errno != api.ErrForm || !none(e)) {
		t.Fatalf("Read(%x): %+v %d, not ErrForm", b, e, errno)
	}
	if again, errno := event.Lay(e); ok && (errno != api.OK || !bytes.Equal(again, b)) {
		t.Fatalf("Read(%x): what comes out is laid as %x", b, again)
	}
}

// 10.2, Read: each cut, a byte more, each byte turned into each other one,
// each taken out, and each doubled.
func TestReadTurned(t *testing.T) {
	for _, e := range some() {
		b, _ := event.Lay(e)
		for k := range b {
			if _, errno := event.Read(b[:k]); errno != api.ErrForm {
				t.Fatalf("Read of %+v, cut at %d: %d", e, k, errno)
			}
			holds(t, b[:k])
			holds(t, slices.Delete(slices.Clone(b), k, k+1))
			holds(t, slices.Insert(slices.Clone(b), k, b[k]))
			for x := range 256 {
				turned := slices.Clone(b)
				turned[k] = byte(x)
				holds(t, turned)
			}
		}
		for x := range 256 {
			if _, errno := event.Read(append(slices.Clone(b), byte(x))); errno != api.ErrForm {
				t.Fatalf("Read of %+v and a byte %d: %d", e, x, errno)
			}
		}
		holds(t, append(slices.Clone(b), b...))
	}
}

// 10.2, Read: bytes of no event: none, few, many alike, and lengths that reach
// too far.
func TestReadOdd(t *testing.T) {
	holds(t, nil)
	holds(t, []byte{})
	for size := range 300 {
		for _, x := range []byte{0, 1, 2, 8, 40, 127, 128, 255} {
			holds(t, bytes.Repeat([]byte{x}, size))
		}
	}
	for _, size := range []int{1 << 16, 1<<16 + 31, 1 << 20} {
		holds(t, bytes.Repeat([]byte{255}, size))
		holds(t, make([]byte, size))
	}
	for _, e := range []api.Event{
		with(of(api.Started), func(e *api.Event) { e.Defs = full(255) }),
		with(of(api.Fired), func(e *api.Event) { e.Name = strings.Repeat("a", 1<<16-1) }),
		with(of(api.Done), func(e *api.Event) { e.N, e.Data = 1, make([]byte, 1<<16-1) }),
	} {
		holds(t, laid(e))
		if _, errno := event.Read(laid(e)); errno != api.ErrForm {
			t.Errorf("Read of type %d, too long: %d", e.Type, errno)
		}
	}
}

// 10.2 and R2: what is laid and what is read is left as it was, and what is
// answered is new.
func TestLayMemory(t *testing.T) {
	for _, e := range append(some(), odd()...) {
		given := roomy(e)
		b, errno := event.Lay(given)
		if !whole(given) || !same(given, e) {
			t.Fatalf("Lay turned %+v", e)
		}
		if errno != api.OK {
			continue
		}
		want := slices.Clone(b)
		scrawl(given)
		if !bytes.Equal(b, want) {
			t.Fatalf("Lay of %+v shares its lists", e)
		}
		b = spare(b, 77)
		x, _ := event.Read(b)
		y, _ := event.Read(b)
		scrawl(x)
		if !bytes.Equal(b, want) || !bytes.Equal(b[len(b):][:3], []byte{77, 77, 77}) || !same(y, e) {
			t.Fatalf("Read of %+v shares its lists", e)
		}
		for k := range b {
			b[k] = 201
		}
		if !same(y, e) {
			t.Fatalf("Read of %+v shares the bytes", e)
		}
	}
}

// 10.2 and R2: no two nodes that are read share their Needs' memory.
func TestReadShared(t *testing.T) {
	e := of(api.Started)
	e.Defs = full(api.MaxNodes)
	b, _ := event.Lay(e)
	x, _ := event.Read(b)
	for k := range x.Defs {
		y := event.Copy(x)
		for n := range x.Defs[k].Needs[:cap(x.Defs[k].Needs)] {
			x.Defs[k].Needs[:cap(x.Defs[k].Needs)][n] = 201
		}
		x.Defs[k] = y.Defs[k]
		if !same(x, e) {
			t.Fatalf("node %d shares its Needs with another", k)
		}
	}
}

// chunks answers l as bytes, one event each.
func chunks(l []api.Event) [][]byte {
	var out [][]byte
	for _, e := range l {
		out = append(out, laid(e))
	}
	return out
}

// 10.2, LayAll and ReadAll: lists of each length, whether they are a line or
// not, to their bytes.
func TestLayAll(t *testing.T) {
	if b, e := event.LayAll([]api.Event{at(1, 1, 0), at(1, 1, 0)}); e != api.OK ||
		string(b) != "\x00\x02"+strings.Repeat("\x00\x21"+"\x00\x01"+"\x00\x00\x00\x00\x00\x00\x00\x01"+"\x00\x00\x00\x00\x00\x00\x00\x00"+"\x08\x00"+"\x00\x00\x00\x00\x00\x00\x00\x00"+"\x00\x00"+"\x00\x00"+"\x00", 2) {
		t.Errorf("LayAll: %x %d", b, e)
	}
	if b, e := event.LayAll(nil); e != api.OK || string(b) != "\x00\x00" {
		t.Errorf("LayAll of none: %x %d", b, e)
	}
	whole, mixed := branch(), rights()
	slices.Reverse(mixed)
	for size := range api.MaxEvents + 1 {
		for _, l := range [][]api.Event{whole[:size], mixed[:size], mixed[len(mixed)-size:]} {
			b, e := event.LayAll(l)
			if e != api.OK || !bytes.Equal(b, laidAll(chunks(l)...)) {
				t.Fatalf("LayAll of %d events: %d", size, e)
			}
			x, e := event.ReadAll(b)
			if e != api.OK || len(x) != size || !event.SameAll(x, l) {
				t.Fatalf("ReadAll of %d events: %d", size, e)
			}
		}
	}
}

// 10.2, LayAll: ErrArg of too many, and of one that is not right, wherever it
// stands.
func TestLayAllWrong(t *testing.T) {
	l := branch()
	for _, much := range [][]api.Event{append(slices.Clone(l), at(1, 1, 0)), append(slices.Clone(l), l...), append(slices.Clone(l), api.Event{}), make([]api.Event, 201), make([]api.Event, 1<<17)} {
		if b, e := event.LayAll(much); e != api.ErrArg || len(b) != 0 {
			t.Errorf("LayAll of %d events: %x %d", len(much), b, e)
		}
	}
	for k := range l {
		for _, x := range odd() {
			turned := slices.Clone(l)
			turned[k] = x
			if b, e := event.LayAll(turned); e != api.ErrArg || len(b) != 0 {
				t.Fatalf("LayAll with %+v at %d: %x %d", x, k, b, e)
			}
		}
	}
}

// holdsAll asks ReadAll of b what 10.2's words say.
func holdsAll(t *testing.T, b []byte) {
	t.Helper()
	was := slices.Clone(b)
	l, errno := event.ReadAll(b)
	if !bytes.Equal(b, was) {
		t.Fatalf("ReadAll turned %x into %x", was, b)
	}
	want, ok := readAll(b)
	if ok && (errno != api.OK || !event.SameAll(l, want)) {
		t.Fatalf("ReadAll(%x): %+v %d, not %+v", b, l, errno, want)
	}
	if !ok && (errno != api.ErrForm || len(l) != 0) {
		t.Fatalf("ReadAll(%x): %+v %d, not ErrForm", b, l, errno)
	}
	if again, errno := event.LayAll(l); ok && (errno != api.OK || !bytes.Equal(again, b)) {
		t.Fatalf("ReadAll(%x): what comes out is laid as %x", b, again)
	}
}

// 10.2, ReadAll: each cut, bytes more, each byte turned, taken and doubled.
func TestReadAllTurned(t *testing.T) {
	all := some()
	for _, l := range [][]api.Event{nil, all[:1], all[1:3], all[7:10]} {
		b, _ := event.LayAll(l)
		for k := range b {
			if _, errno := event.ReadAll(b[:k]); errno != api.ErrForm {
				t.Fatalf("ReadAll of %d events, cut at %d: %d", len(l), k, errno)
			}
			holdsAll(t, slices.Delete(slices.Clone(b), k, k+1))
			holdsAll(t, slices.Insert(slices.Clone(b), k, b[k]))
			for x := range 256 {
				turned := slices.Clone(b)
				turned[k] = byte(x)
				holdsAll(t, turned)
			}
		}
		for x := range 256 {
			if _, errno := event.ReadAll(append(slices.Clone(b), byte(x))); errno != api.ErrForm {
				t.Fatalf("ReadAll of %d events and a byte %d: %d", len(l), x, errno)
			}
		}
		holdsAll(t, append(slices.Clone(b), b...))
	}
}

// 10.2, ReadAll: more events than there may be, counts that are not theirs,
// and events that are not right, too short or too long in their places.
func TestReadAllOdd(t *testing.T) {
	l := chunks(branch())
	for _, b := range [][]byte{laidAll(append(l, l[0])...), laidAll(slices.Repeat(l, 2)...), laidAll(slices.Repeat(l[7:8], 1<<16-1)...), laidAll(slices.Repeat([][]byte{nil}, 201)...)} {
		if x, e := event.ReadAll(b); e != api.ErrForm || len(x) != 0 {
			t.Errorf("ReadAll of too many: %d", e)
		}
		holdsAll(t, b)
	}
	b := laidAll(l[:3]...)
	for count := range 1 << 16 {
		turned := slices.Clone(b)
		binary.BigEndian.PutUint16(turned, uint16(count))
		if x, e := event.ReadAll(turned); (e == api.OK) != (count == 3) || e != api.OK && (e != api.ErrForm || len(x) != 0) {
			t.Fatalf("ReadAll of 3 events, told as %d: %d", count, e)
		}
	}
	for k := range l {
		for _, x := range [][]byte{nil, l[k][:len(l[k])-1], append(slices.Clone(l[k]), 0), laid(api.Event{}), laid(odd()[1]), laid(odd()[4])} {
			turned := slices.Clone(l)
			turned[k] = x
			if got, e := event.ReadAll(laidAll(turned...)); e != api.ErrForm || len(got) != 0 {
				t.Fatalf("ReadAll with %x at %d: %d", x, k, e)
			}
		}
	}
	for size := range 300 {
		for _, x := range []byte{0, 1, 2, 127, 128, 255} {
			holdsAll(t, bytes.Repeat([]byte{x}, size))
		}
	}
	holdsAll(t, make([]byte, 1<<20))
	holdsAll(t, bytes.Repeat([]byte{255}, 1<<20))
}

// 10.2 and R2: LayAll and ReadAll leave what they are given, and answer lists
// of which no two share any memory.
func TestLayAllMemory(t *testing.T) {
	var l []api.Event
	for _, e := range some() {
		l = append(l, roomy(e))
	}
	l = spare(l, api.Event{ID: 77})
	b, _ := event.LayAll(l)
	for k, e := range some() {
		if !whole(l[k]) || !same(l[k], e) {
			t.Fatalf("LayAll turned event %d", k)
		}
	}
	if l[len(l):][:1][0].ID != 77 {
		t.Error("LayAll turned spare room")
	}
	want := slices.Clone(b)
	for k := range l {
		scrawl(l[k])
	}
	if !bytes.Equal(b, want) {
		t.Error("LayAll shares its lists")
	}
	b = spare(b, 77)
	x, _ := event.ReadAll(b)
	y, _ := event.ReadAll(b)
	for k := range x {
		keep := event.Copy(x[k])
		scrawl(x[k])
		x[k] = keep
		if !event.SameAll(x, some()) || !event.SameAll(y, some()) || !bytes.Equal(b, want) || !bytes.Equal(b[len(b):][:3], []byte{77, 77, 77}) {
			t.Fatalf("ReadAll: event %d shares its lists", k)
		}
	}
	for k := range b {
		b[k] = 201
	}
	if !event.SameAll(y, some()) {
		t.Error("ReadAll shares the bytes")
	}
}
