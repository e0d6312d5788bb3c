package kv_test

import (
	"fmt"
	"math"
	"math/rand"
	"slices"
	"strings"
	"testing"

	"cutover/api"
	"cutover/disk"
	"cutover/kv"
)

// 7.2: a store of an empty disk has nothing, is not dead, and has done nothing.
func TestNewStore(t *testing.T) {
	d := disk.New()
	s := open(t, d, "")
	if value, there := s.Get("a"); there || len(value) > 0 {
		t.Errorf("Get: %q, %v", value, there)
	}
	if len(s.Keys("")) > 0 || len(s.Keys("a")) > 0 || d.Works() != 0 {
		t.Errorf("keys %q, %d works", s.Keys(""), d.Works())
	}
}

// The chapter's example.
func TestExample(t *testing.T) {
	s := open(t, disk.New(), "")
	is(t, "Commit", s.Commit(changes("a=1")), api.OK)
	is(t, "Commit", s.Commit([]api.Change{{Key: "b", Has: true}}), api.OK)
	if value, there := s.Get("b"); !there || len(value) != 0 {
		t.Errorf("Get(b): %q, %v", value, there)
	}
	holds(t, s, "a=1 b=")
}

// 7.2: wal.Open's errors, in its order, ahead of what the records are; beside
// each there is no store, and the disk is as it was.
func TestOpenRefuses(t *testing.T) {
	for _, segment := range []int{math.MinInt, -1, 0, api.MinSegment - 1, api.MaxSegment + 1, math.MaxInt} {
		refused(t, "nil", nil, segment, api.ErrArg)
		for _, bytes := range []string{"", commit(records("a=1")...), commit("no change"), framed(7, "")} {
			d := written(map[int]string{0: bytes})
			refused(t, fmt.Sprint("segment ", segment), d, segment, api.ErrArg)
			d.Fuse(0)
			d.Sync()
			refused(t, fmt.Sprint("dead, segment ", segment), d, segment, api.ErrArg)
		}
	}
	refused(t, "nil", nil, api.MinSegment, api.ErrArg)
	for _, bytes := range []string{"", commit(records("a=1")...), commit("no change"), framed(7, "")} {
		d := written(map[int]string{0: bytes})
		d.Fuse(0)
		d.Sync()
		refused(t, "dead", d, api.MinSegment, api.ErrDown)
		d.Crash(0, 0)
		if s, e := kv.Open(d, api.MinSegment); (e == api.OK) != (s != nil) || e != api.OK && e != api.ErrForm {
			t.Errorf("behind a crash: a store %v, error %d", s != nil, e)
		}
	}
	for _, bytes := range []string{framed(7, ""), framed(2, ""), framed(1, "x") + framed(4, "")} {
		refused(t, "a frame that may not stand", written(map[int]string{3: bytes}), api.MinSegment, api.ErrForm)
	}
	for _, segment := range []int{api.MinSegment, api.MinSegment + 1, api.MaxSegment} {
		if s, e := kv.Open(disk.New(), segment); e != api.OK || s == nil {
			t.Errorf("segment %d: error %d", segment, e)
		}
	}
}

// 7.2: a record that counts and is no change is ErrForm, wherever it stands.
func TestOpenOfNoChange(t *testing.T) {
	a, b := record(has("a", "1")), record(has("b", "2"))
	for _, wrong := range []string{"", "no change", a + "x", a[:len(a)-1], "\x00\x00\x00", "\x02" + a[1:], "\x00\x00\x01a\x00\x00", "\x01" + short(of(256)) + short("x")} {
		for name, files := range map[string]map[int]string{
			"alone":               {0: commit(wrong)},
			"first":               {0: commit(wrong, a, b)},
			"last":                {0: commit(a, b, wrong)},
			"in a later commit":   {0: commit(a) + commit(b) + commit(wrong)},
			"in an earlier one":   {0: commit(a) + commit(wrong) + commit(b)},
			"in a later file":     {0: commit(a), 9: commit(wrong)},
			"in an earlier one's": {0: commit(wrong), 9: commit(a)},
			"in a checkpoint":     {0: checkpoint(a, wrong)},
			"behind a checkpoint": {0: checkpoint(a) + commit(wrong)},
		} {
			refused(t, name, written(files), api.MinSegment, api.ErrForm)
		}
	}
}

// R3: an Open that is refused turns nothing, though a checkpoint stands in a
// later file, and those ahead of it would go with a right one.
func TestRefusedOpenRemovesNothing(t *testing.T) {
	a := record(has("a", "1"))
	for name, last := range map[string]string{
		"in the checkpoint": checkpoint(a, "no change"),
		"behind it":         checkpoint(a) + commit("no change"),
	} {
		d := written(map[int]string{0: commit(a), 3: commit(a), 4: last})
		d.Append(1, []byte("it pends"))
		refused(t, name, d, api.MinSegment, api.ErrForm)
		d.Fuse(0)
		refused(t, name+", fused", d, api.MinSegment, api.ErrForm)
	}
	d := written(map[int]string{0: commit(a), 3: commit("no change"), 4: checkpoint(record(has("b", "2")))})
	open(t, d, "b=2")
	if got := fmt.Sprint(d.Files()); got != "[4]" {
		t.Errorf("behind an Open that went well: files %s", got)
	}
}

// 7.2: what does not count in the log does not count here: what a crash left
// of a commit, and what stands ahead of a checkpoint, whatever it is.
func TestOpenOfWhatDoesNotCount(t *testing.T) {
	a, b := record(has("a", "1")), record(has("b", "2"))
	for name, files := range map[string]map[int]string{
		"no mark":                {0: commit(a) + framed(1, b)},
		"no mark, and no change": {0: commit(a) + framed(1, "no change")},
		"a cut frame":            {0: commit(a) + commit(b)[:20]},
		"no mark of a file":      {0: framed(1, b), 1: commit(a)},
		"ahead of a checkpoint":  {0: commit(b, "no change") + checkpoint(a)},
		"in files ahead of one":  {0: commit("no change"), 5: checkpoint(b), 6: checkpoint(a)},
		"a checkpoint's no mark": {0: commit(a), 1: framed(3, b)},
		"of a cut checkpoint":    {0: commit(a), 1: checkpoint(b)[:20]},
	} {
		t.Run(name, func(t *testing.T) { open(t, written(files), "a=1") })
	}
}

// 7.2: records turn their keys one behind the other, from none on, from
// commit to commit, from file to file, and from a checkpoint on.
func TestOpenReplays(t *testing.T) {
	for _, c := range []struct {
		files map[int]string
		want  string
	}{
		{map[int]string{0: commit(records("a=1 b=2 a=3")...)}, "a=3 b=2"},
		{map[int]string{0: commit(records("a=1")...) + commit(records("a=2")...)}, "a=2"},
		{map[int]string{0: commit(records("a=1 -a")...)}, ""},
		{map[int]string{0: commit(records("a=1 -a a=")...)}, "a="},
		{map[int]string{0: commit(records("-a")...) + commit(records("a=1 -b")...)}, "a=1"},
		{map[int]string{2: commit(records("a=1 b=1")...), 7: commit(records("-b c=1")...), 11: commit(records("a=5")...)}, "a=5 c=1"},
		{map[int]string{0: commit(records("a=1 b=1")...) + checkpoint(records("c=1")...) + commit(records("d=1")...)}, "c=1 d=1"},
		{map[int]string{0: checkpoint(records("b=1 a=1 -b a=2")...)}, "a=2"},
		{map[int]string{0: checkpoint(records("a=1")...), 1: checkpoint()}, ""},
	} {
		d := written(c.files)
		open(t, d, c.want)
		open(t, d, c.want)
	}
}

// 7.2: changes turn their keys one behind the other: a later one of a key
// wins, within a commit and from commit to commit; also where the store is
// opened again.
func TestCommit(t *testing.T) {
	d := disk.New()
	s := open(t, d, "")
	for _, c := range []struct{ l, want string }{
		{"b=1 a=2 ab=3 b=4", "a=2 ab=3 b=4"},
		{"-none", "a=2 ab=3 b=4"},
		{"-b a=", "a= ab=3"},
		{"-a -a", "ab=3"},
		{"c=1 -c c=2 -c", "ab=3"},
		{"-ab ab=4 d=1", "ab=4 d=1"},
		{"", "ab=4 d=1"},
		{"d=2 d=3 d=4 ab=4", "ab=4 d=4"},
		{"-d -ab", ""},
		{"a=1", "a=1"},
	} {
		is(t, "Commit of "+c.l, s.Commit(changes(c.l)), api.OK)
		holds(t, s, c.want)
		open(t, d, c.want)
	}
}

// 7.2: what is written is just one commit of the log, the changes laid in
// their order, those that turn nothing, too; a Commit of none is no work.
func TestCommitWrites(t *testing.T) {
	d := disk.New()
	s := open(t, d, "")
	all := ""
	for _, words := range []string{"b=2 a=1 b=3", "-none", "", "a=1 a=1 -b -b", "c="} {
		works := d.Works()
		is(t, "Commit", s.Commit(changes(words)), api.OK)
		if words != "" {
			all += commit(records(words)...)
			works += 2
		}
		if got := string(d.Read(0)); got != all || d.Works() != works || d.Pending() != 0 {
			t.Fatalf("Commit of %q: %s; not %q, %d works", words, tellDisk(d), all, works)
		}
	}
	is(t, "Commit of an empty list", s.Commit([]api.Change{}), api.OK)
	if got := string(d.Read(0)); got != all {
		t.Errorf("%q, not %q", got, all)
	}
}

// 7.2: the segment is the log's: a full one takes no more commits.
func TestSegment(t *testing.T) {
	for _, segment := range []int{api.MinSegment, 1000} {
		d := disk.New()
		s, _ := kv.Open(d, segment)
		for i := range 50 {
			is(t, "Commit", s.Commit(changes(fmt.Sprintf("k%02d=%s", i, of(40)))), api.OK)
		}
		one := len(commit(records("k00=" + of(40))...))
		full := (segment + one - 1) / one // commits that fill a segment
		if got := len(d.Files()); got != (50+full-1)/full {
			t.Errorf("segment %d: %d files of %d commits each", segment, got, full)
		}
		for _, file := range d.Files()[:len(d.Files())-1] {
			if n := len(d.Read(file)); n != full*one {
				t.Errorf("segment %d: file %d has %d bytes, not %d", segment, file, n, full*one)
			}
		}
		if again, e := kv.Open(d, segment); e != api.OK || tell(again) != tell(s) || again.Count() != 50 {
			t.Errorf("segment %d: opened again, error %d: %s", segment, e, tell(again))
		}
	}
}

// wrong are changes that Lay refuses.
func wrong() []api.Change {
	return []api.Change{
		{}, has("", "x"), {Key: "a", Value: []byte("x")}, gone(of(256)), has(of(256), ""), has("a", of(65536)), {Has: true},
	}
}

// 7.2: of a change that Lay refuses, at any place, nothing is done: the store
// is not dead, has what it had, and goes on.
func TestCommitRefuses(t *testing.T) {
	for _, c := range wrong() {
		d := disk.New()
		s := open(t, d, "")
		is(t, "Commit", s.Commit(changes("a=1 b=2")), api.OK)
		ahead := tellDisk(d)
		for at := range 4 {
			l := slices.Insert(changes("a=9 -b c=3"), at, c)
			is(t, "Commit", s.Commit(l), api.ErrArg)
			holds(t, s, "a=1 b=2")
		}
		is(t, "Commit", s.Commit(wrong()), api.ErrArg)
		if now := tellDisk(d); now != ahead {
			t.Fatalf("%s; not %s", now, ahead)
		}
		is(t, "Commit", s.Commit(changes("c=3")), api.OK)
		holds(t, s, "a=1 b=2 c=3")
		open(t, d, "a=1 b=2 c=3")
	}
}

// 7.2, R3: on a disk that is dead, ahead of the commit that tells it, Lay's
// error is the one, and neither it nor a Commit of none makes the store dead.
func TestErrArgIsAheadOfTheLog(t *testing.T) {
	d := disk.New()
	s := open(t, d, "")
	is(t, "Commit", s.Commit(changes("a=1")), api.OK)
	d.Fuse(0)
	d.Sync()
	holds(t, s, "a=1")
	for _, c := range wrong() {
		is(t, "Commit", s.Commit([]api.Change{has("b", "2"), c}), api.ErrArg)
	}
	is(t, "Commit of none", s.Commit(nil), api.OK)
	holds(t, s, "a=1")
	is(t, "Commit", s.Commit(changes("b=2")), api.ErrDown)
	isDead(t, s, "a", "b")
}

// 7.2: a Commit at which the disk falls makes the store dead, for good, though
// the disk works again; another one is opened, and has what was OK.
func TestDead(t *testing.T) {
	for fuse := range 2 {
		d := disk.New()
		s := open(t, d, "")
		is(t, "Commit", s.Commit(changes("a=1 b=")), api.OK)
		d.Fuse(fuse)
		is(t, "Commit", s.Commit(changes("a=2 c=3")), api.ErrDown)
		isDead(t, s, "a", "b", "c", "z", "")
		d.Crash(0, 0)
		ahead := tellDisk(d)
		isDead(t, s, "a", "b", "c", "z", "")
		if now := tellDisk(d); now != ahead {
			t.Errorf("what a dead store was asked left %s; not %s", now, ahead)
		}
		other := open(t, d, "a=1 b=")
		is(t, "Commit", other.Commit(changes("c=4")), api.OK)
		open(t, d, "a=1 b= c=4")
		isDead(t, s, "a", "b", "c", "z")
	}
}

// 7.2: likewise a Checkpoint, at each of its works; what was committed is
// there whether or not it counts.
func TestDeadAtCheckpoint(t *testing.T) {
	for fuse := range 6 {
		for done := range 3 {
			d := written(map[int]string{0: commit(records("a=1 b=2")...)})
			s := open(t, d, "a=1 b=2")
			is(t, "Commit", s.Commit(changes("-a c=3")), api.OK)
			d.Fuse(fuse)
			if fuse == 5 {
				is(t, "Checkpoint", s.Checkpoint(), api.OK)
				holds(t, s, "b=2 c=3")
				continue
			}
			is(t, "Checkpoint", s.Checkpoint(), api.ErrDown)
			isDead(t, s, "a", "b", "c")
			d.Crash(done, 0)
			isDead(t, s, "a", "b", "c")
			open(t, d, "b=2 c=3")
		}
	}
}

// 7.2: a disk that dies at what wal.Open removes is told by the next Commit:
// till then the store is there.
func TestOpenAtWhichTheDiskDies(t *testing.T) {
	d := written(map[int]string{0: commit(records("a=1")...), 1: checkpoint(records("b=2")...)})
	d.Fuse(0)
	s := open(t, d, "b=2")
	if !d.Dead() {
		t.Fatal("the disk is not dead")
	}
	is(t, "Checkpoint", s.Checkpoint(), api.ErrDown)
	isDead(t, s, "a", "b")
	d.Crash(0, 0)
	open(t, d, "b=2")
}

// 7.2: a checkpoint has all pairs, laid in the order of keys, and no others,
// in one file, and commits go on behind it.
func TestCheckpoint(t *testing.T) {
	d := disk.New()
	s := open(t, d, "")
	is(t, "Checkpoint", s.Checkpoint(), api.OK)
	if got := string(d.Read(0)); got != checkpoint() {
		t.Errorf("of none: %q", got)
	}
	is(t, "Commit", s.Commit(changes("b=2 x=9 a=1 -x ab= B=3 b=4")), api.OK)
	is(t, "Checkpoint", s.Checkpoint(), api.OK)
	want := checkpoint(records("B=3 a=1 ab= b=4")...)
	if got := tellDisk(d); got != fmt.Sprintf("0 pend, %d works, dead false: 1 %q", d.Works(), want) {
		t.Errorf("%s; not %q", got, want)
	}
	holds(t, s, "B=3 a=1 ab= b=4")
	open(t, d, "B=3 a=1 ab= b=4")
	is(t, "Commit", s.Commit(changes("-a c=5")), api.OK)
	open(t, d, "B=3 ab= b=4 c=5")
	is(t, "Commit", s.Commit(changes("-B -ab -b -c")), api.OK)
	is(t, "Checkpoint", s.Checkpoint(), api.OK)
	holds(t, s, "")
	if got := string(d.Read(2)); got != checkpoint() {
		t.Errorf("of none any more: %q", got)
	}
}

// 7.2: the greatest keys and values go through commits and checkpoints.
func TestGreatPairs(t *testing.T) {
	d := disk.New()
	s := open(t, d, "")
	m, l := model{}, []api.Change{}
	for i := range 5 {
		l = append(l, has(strings.Repeat(string(rune('a'+i)), 255), of(65535-i)))
	}
	is(t, "Commit", s.Commit(l), api.OK)
	m = m.turned(l)
	for range 2 {
		same(t, s, m)
		again, _ := kv.Open(d, api.MinSegment)
		same(t, again, m)
		is(t, "Checkpoint", s.Checkpoint(), api.OK)
	}
}

// 7.2: Keys answers those that begin with the prefix, and no others, rising by
// their bytes, not by letters or runes.
func TestKeys(t *testing.T) {
	s := open(t, disk.New(), "")
	for _, key := range []string{"b", "\xff", "ab", "a", "ä", "a\x00", "B", "\x00", "a/b", "aa", "\xff\xff", "abc", "10", "9", "\u4e16", "a\xff", "𝄞", "\xe4"} {
		is(t, "Commit", s.Commit([]api.Change{has(key, "v")}), api.OK)
	}
	for prefix, want := range map[string][]string{
		"":          {"\x00", "10", "9", "B", "a", "a\x00", "a/b", "aa", "ab", "abc", "a\xff", "b", "ä", "\xe4", "\u4e16", "𝄞", "\xff", "\xff\xff"},
		"a":         {"a", "a\x00", "a/b", "aa", "ab", "abc", "a\xff"},
		"ab":        {"ab", "abc"},
		"abc":       {"abc"},
		"abcd":      nil,
		"A":         nil,
		"\x00":      {"\x00"},
		"a\x00":     {"a\x00"},
		"a\x00\x00": nil,
		"\xff":      {"\xff", "\xff\xff"},
		"\xc3":      {"ä"},
		"\xe4":      {"\xe4", "\u4e16"},
		"1":         {"10"},
		"c":         nil,
		of(300):     nil,
	} {
		if got := s.Keys(prefix); !slices.Equal(got, want) {
			t.Errorf("Keys(%q): %q, not %q", prefix, got, want)
		}
	}
	if got := s.Keys(""); len(got) != s.Count() {
		t.Errorf("%d keys, Count %d", len(got), s.Count())
	}
}

// 7.2: Get has what is there by just that key: none of a part of it, or of one
// that no pair can have.
func TestGetOfNone(t *testing.T) {
	s := open(t, disk.New(), "")
	is(t, "Commit", s.Commit(changes("abc=1 b=2 -b")), api.OK)
	for _, key := range []string{"", "a", "ab", "abcd", "ABC", "abc\x00", "b", of(255), of(256), of(1 << 17)} {
		if value, there := s.Get(key); there || len(value) > 0 {
			t.Errorf("Get(%.20q): %q, %v", key, value, there)
		}
	}
}

// R2: Commit changes nothing of what it is handed, spare room included, and
// keeps none of it.
func TestCommitLeavesArgumentsAlone(t *testing.T) {
	d := disk.New()
	s := open(t, d, "")
	value := []byte("valueSPARE")
	l := make([]api.Change, 2, 4)
	l[0], l[1] = api.Change{Key: "a", Has: true, Value: value[:5]}, gone("b")
	l[:4][2] = has("spare", "x")
	is(t, "Commit", s.Commit(l), api.OK)
	if string(value) != "valueSPARE" || tellChange(l[1]) != tellChange(gone("b")) || l[:4][2].Key != "spare" || l[0].Key != "a" {
		t.Errorf("Commit left %q, %v", value, l[:4])
	}
	scribble(value, '!')
	scribble(l, has("other", "x"))
	holds(t, s, "a=value")
	is(t, "Checkpoint", s.Checkpoint(), api.OK)
	holds(t, s, "a=value")
	open(t, d, "a=value")
}

// R2: what Get and Keys answer is new memory each time.
func TestAnswersAreNew(t *testing.T) {
	d := disk.New()
	s := open(t, d, "")
	is(t, "Commit", s.Commit(changes("a=one b=two")), api.OK)
	for _, s := range []*kv.Store{s, open(t, d, "a=one b=two")} {
		value, keys := []byte(nil), []string(nil)
		for range 3 {
			value, _ = s.Get("a")
			again, _ := s.Get("a")
			scribble(again, '!')
			keys = s.Keys("")
			scribble(s.Keys(""), "!")
			if string(value) != "one" || !slices.Equal(keys, []string{"a", "b"}) {
				t.Errorf("%q, %q", value, keys)
			}
			holds(t, s, "a=one b=two")
			is(t, "Checkpoint", s.Checkpoint(), api.OK)
		}
		is(t, "Commit", s.Commit(changes("a=six -b b=two")), api.OK)
		is(t, "Commit", s.Commit(changes("a=one")), api.OK)
		if string(value) != "one" || !slices.Equal(keys, []string{"a", "b"}) {
			t.Errorf("what was answered is %q, %q", value, keys)
		}
	}
}

// R3: to ask turns nothing.
func TestAskingTurnsNothing(t *testing.T) {
	d := disk.New()
	s := open(t, d, "")
	is(t, "Commit", s.Commit(changes("a=1 b=2")), api.OK)
	ahead := tellDisk(d)
	for range 3 {
		s.Get("a")
		s.Get("none")
		s.Keys("a")
		s.Count()
		s.Dead()
	}
	if now := tellDisk(d); now != ahead {
		t.Errorf("%s; not %s", now, ahead)
	}
	holds(t, s, "a=1 b=2")
}

// R7: stores of other disks know nothing of one another.
func TestStoresAreApart(t *testing.T) {
	here, there := disk.New(), disk.New()
	one, two := open(t, here, ""), open(t, there, "")
	is(t, "Commit", one.Commit(changes("a=1 b=2")), api.OK)
	is(t, "Commit", two.Commit(changes("a=3")), api.OK)
	here.Fuse(0)
	is(t, "Commit", one.Commit(changes("a=4")), api.ErrDown)
	isDead(t, one, "a", "b")
	holds(t, two, "a=3")
	is(t, "Checkpoint", two.Checkpoint(), api.OK)
	holds(t, two, "a=3")
}

// R1: none panics, on a nil object neither.
func TestNilObjectsDoNotPanic(t *testing.T) {
	var s *kv.Store
	is(t, "Commit", s.Commit(changes("a=1")), api.ErrArg)
	is(t, "Commit of none", s.Commit(nil), api.ErrArg)
	is(t, "Checkpoint", s.Checkpoint(), api.ErrArg)
	if value, there := s.Get("a"); there || len(value) > 0 || len(s.Keys("")) > 0 || s.Count() != 0 || s.Dead() {
		t.Errorf("a nil Store: %q, %v, %q, %d, %v", value, there, s.Keys(""), s.Count(), s.Dead())
	}
}

// R4: the pairs and the bytes of a checkpoint hang on what was committed, not
// on the order in which it came.
func TestOrderIsNotTold(t *testing.T) {
	l := []api.Change{}
	for i := range 60 {
		l = append(l, has(fmt.Sprintf("k%d", i*i), fmt.Sprint(i)))
	}
	told := map[string]int{}
	for seed := range int64(20) {
		rand.New(rand.NewSource(seed)).Shuffle(len(l), func(i, k int) { l[i], l[k] = l[k], l[i] })
		d := disk.New()
		s := open(t, d, "")
		is(t, "Commit", s.Commit(l), api.OK)
		is(t, "Checkpoint", s.Checkpoint(), api.OK)
		told[tell(s)+tellDisk(d)]++
	}
	if len(told) != 1 {
		t.Errorf("told in %d ways", len(told))
	}
}
