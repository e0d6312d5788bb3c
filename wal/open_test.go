package wal_test

import (
	"fmt"
	"math"
	"regexp"
	"slices"
	"strings"
	"testing"

	"cutover/api"
	"cutover/disk"
	"cutover/wal"
)

func TestExample(t *testing.T) {
	d := disk.New()
	is(t, "Commit", open(t, d).Commit(list("a", "b")), api.OK)
	open(t, d, "a", "b")
}

// 6.1: a nil disk, and segments that may not be; what is dead; and the order
// of the errors.
func TestOpenRefuses(t *testing.T) {
	bad := map[int]string{0: checkpoint(), 1: laid(2, "")}
	dead := written(bad)
	dead.Fuse(0)
	dead.Sync()
	for _, segment := range []int{math.MinInt, -1, 0, api.MinSegment - 1, api.MaxSegment + 1, math.MaxInt} {
		refused(t, fmt.Sprint(segment), disk.New(), segment, api.ErrArg)
		refused(t, fmt.Sprint(segment, " of a dead one"), dead, segment, api.ErrArg)
		refused(t, fmt.Sprint(segment, " of a bad one"), written(bad), segment, api.ErrArg)
	}
	for _, segment := range []int{api.MinSegment, api.MinSegment + 1, api.MaxSegment} {
		refused(t, "nil", nil, segment, api.ErrArg)
		refused(t, "dead", dead, segment, api.ErrDown)
		refused(t, "bad", written(bad), segment, api.ErrForm)
		if l, records, e := wal.Open(disk.New(), segment); l == nil || len(records) > 0 || e != api.OK {
			t.Errorf("segment %d: a log %v, records %s, error %d", segment, l != nil, tell(records), e)
		}
	}
	dead.Crash(0, 0)
	refused(t, "not dead any more", dead, api.MinSegment, api.ErrForm)
}

// 6.1: how commits and checkpoints lie in the disk's files.
func TestLaid(t *testing.T) {
	d := disk.New()
	l := open(t, d)
	is(t, "Commit", l.Commit(list("a", "", "bc")), api.OK)
	want := commit("a", "", "bc")
	if got := string(d.Read(0)); got != want {
		t.Fatalf("%q, not %q", got, want)
	}
	is(t, "Commit", l.Commit(list("d")), api.OK)
	want += commit("d")
	if got := string(d.Read(0)); got != want {
		t.Fatalf("%q, not %q", got, want)
	}
	is(t, "Checkpoint", l.Checkpoint(list("k", "", "mn")), api.OK)
	if got, want := string(d.Read(1)), checkpoint("k", "", "mn"); got != want {
		t.Fatalf("%q, not %q", got, want)
	}
	is(t, "Checkpoint", l.Checkpoint(nil), api.OK)
	if got, want := string(d.Read(2)), "\x04\x00\x00\x00\x00"; !strings.HasPrefix(got, want) || len(got) != 9 {
		t.Fatalf("%q, not %q and a sum", got, want)
	}
}

// frames answers the bytes of a text of kinds: x is a 2 with bytes, y a 4
// with bytes; and each record is told by its place and the file's name.
func frames(name, kinds string) (string, []string) {
	b, records := "", make([]string, len(kinds))
	for i, c := range kinds {
		switch c {
		case '1', '3':
			records[i] = fmt.Sprint(name, i)
			b += laid(byte(c-'0'), records[i])
		case 'x':
			b += laid(2, "b")
		case 'y':
			b += laid(4, "b")
		default:
			b += laid(byte(c-'0'), "")
		}
	}
	return b, records
}

var (
	legal    = regexp.MustCompile(`^(1+2|3*4)*(1*|3*)$`)
	unmarked = regexp.MustCompile(`(1+|3+)$`)
)

// comesTo answers by 6.1 what the files of texts of kinds come to: the
// records, and the place of the file with the last checkpoint (-1: none);
// false, where it is ErrForm.
func comesTo(files []string) ([]string, int, bool) {
	var records []string
	since := -1
	for at, kinds := range files {
		if !legal.MatchString(kinds) {
			return nil, 0, false
		}
		_, told := frames(name(at), kinds)
		end := len(kinds) - len(unmarked.FindString(kinds))
		from := 0
		if last := strings.LastIndex(kinds, "4"); last >= 0 {
			from = len(strings.TrimRight(kinds[:last], "3"))
			records, since = nil, at
		}
		for _, r := range told[from:end] {
			if r != "" {
				records = append(records, r)
			}
		}
	}
	return records, since, true
}

// name answers what the records of a file at a place begin with.
func name(at int) string { return string(rune('a' + at)) }

// holds opens files of kinds, with tails behind them that are no frames, and
// holds all that Open does to comesTo.
func holds(t *testing.T, files []string, numbers []int, tail string) {
	t.Helper()
	all := map[int]string{}
	for at, kinds := range files {
		b, _ := frames(name(at), kinds)
		all[numbers[at]] = b + tail
	}
	d := written(all)
	want, since, ok := comesTo(files)
	told := fmt.Sprintf("files %q, tail %q", files, tail)
	if !ok {
		refused(t, told, d, api.MinSegment, api.ErrForm)
		return
	}
	there := d.Files()
	l, records, e := wal.Open(d, api.MinSegment)
	if e != api.OK || l == nil || tell(records) != tell(want) {
		t.Fatalf("%s: %s, error %d; not %s", told, tell(records), e, tell(want))
	}
	stays := there
	if since >= 0 {
		stays = slices.DeleteFunc(slices.Clone(there), func(file int) bool { return file < numbers[since] })
	}
	if !slices.Equal(l.Segments(), stays) || d.Pending() != len(there)-len(stays) || l.Size() != 0 {
		t.Fatalf("%s: %v, %d pend, size %d; not %v", told, l.Segments(), d.Pending(), l.Size(), stays)
	}
	if _, again, e := wal.Open(d, api.MinSegment); e != api.OK || tell(again) != tell(want) {
		t.Fatalf("%s: opened twice: %s, error %d; not %s", told, tell(again), e, tell(want))
	}
	is(t, told, l.Commit(list("z")), api.OK)
	next := 0
	if len(there) > 0 {
		next = there[len(there)-1] + 1
	}
	if got := string(d.Read(next)); got != commit("z") {
		t.Fatalf("%s: the next segment is not %d: %s", told, next, tellDisk(d))
	}
	open(t, d, append(want, "z")...)
}

// eachText calls f with each text that begins with front and has at most n
// letters more.
func eachText(front, letters string, n int, f func(string)) {
	f(front)
	if n == 0 {
		return
	}
	for _, c := range letters {
		eachText(front+string(c), letters, n-1, f)
	}
}

// 6.1: each order of kinds in one file, and what may not be.
func TestKindsOfOneFile(t *testing.T) {
	eachText("", "12345xy", 4, func(kinds string) {
		holds(t, []string{kinds}, []int{7}, "")
	})
	eachText("", "1234", 6, func(kinds string) {
		holds(t, []string{kinds}, []int{0}, "\x01")
	})
}

// 6.1: some orders told one by one, so that not all hangs on comesTo.
func TestKindsByHand(t *testing.T) {
	for _, c := range []struct {
		kinds string
		want  []string
		ok    bool
	}{
		{"", nil, true}, {"12", []string{"a0"}, true}, {"1", nil, true}, {"121", []string{"a0"}, true},
		{"1121", []string{"a0", "a1"}, true}, {"12123", []string{"a0", "a2"}, true},
		{"4", nil, true}, {"124", nil, true}, {"1234", []string{"a2"}, true}, {"123", []string{"a0"}, true},
		{"33412", []string{"a0", "a1", "a3"}, true}, {"343", []string{"a0"}, true}, {"3434", []string{"a2"}, true},
		{"34124", nil, true}, {"44", nil, true}, {"12412", []string{"a3"}, true},
		{"2", nil, false}, {"122", nil, false}, {"42", nil, false}, {"14", nil, false}, {"32", nil, false},
		{"13", nil, false}, {"31", nil, false}, {"5", nil, false}, {"125", nil, false}, {"1x", nil, false},
		{"x", nil, false}, {"y", nil, false}, {"3y", nil, false}, {"34121x", nil, false},
	} {
		want, _, ok := comesTo([]string{c.kinds})
		if ok != c.ok || tell(want) != tell(c.want) {
			t.Errorf("%s: %s, %v; not %s, %v", c.kinds, tell(want), ok, tell(c.want), c.ok)
		}
		holds(t, []string{c.kinds}, []int{3}, "")
	}
}

// 6.1: of all the kinds that a frame can have four may be.
func TestOtherKinds(t *testing.T) {
	for kind := 5; kind <= 255; kind++ {
		for _, body := range []string{"", "b"} {
			d := written(map[int]string{0: commit("a") + laid(byte(kind), body)})
			refused(t, fmt.Sprint("kind ", kind), d, api.MinSegment, api.ErrForm)
		}
	}
}

// 6.1: files one behind the other: what one began no other ends, and the last
// checkpoint is the last of all.
func TestKindsOfSeveralFiles(t *testing.T) {
	pieces := []string{"1", "3", "12", "123", "34", "4", "3412", "1234", "12343", "2", "5"}
	for _, a := range pieces {
		for _, b := range pieces {
			for _, c := range pieces {
				holds(t, []string{a, b, c}, []int{1, 2, 30}, "")
				holds(t, []string{a, b, c}, []int{0, 9, 10}, laid(1, "tail")[:12])
			}
		}
	}
}

// 6.1: the files are read by their numbers, not by when they were made.
func TestFilesRise(t *testing.T) {
	d := disk.New()
	for _, file := range []int{30, 2, 10, 9, 100} {
		d.Append(file, []byte(commit(fmt.Sprint(file))))
	}
	open(t, d, "2", "9", "10", "30", "100")
}

// 6.1: of a file that is cut nothing counts from its cut on; the next one
// counts again.
func TestCutFiles(t *testing.T) {
	parts := []string{commit("a", "b"), commit("c"), commit("", "d", "")}
	words := [][]string{{"a", "b"}, {"c"}, {"", "d", ""}}
	whole := strings.Join(parts, "")
	for cut := range len(whole) + 1 {
		var want []string
		end := 0
		for i, p := range parts {
			if end += len(p); end <= cut {
				want = append(want, words[i]...)
			}
		}
		files := map[int]string{0: whole[:cut], 1: commit("z")}
		open(t, written(files), append(want, "z")...)
	}
}

// 6.1: likewise where a byte is another one; and a checkpoint whose mark is
// not whole does not count, so that the files ahead of it stay.
func TestTurnedFiles(t *testing.T) {
	first, second, last := commit("a", "bcd"), commit("e"), commit("f")
	whole := first + second + last
	check := checkpoint("k", "m")
	for with := 1; with < 256; with += 37 {
		for at := range whole {
			var want []string
			if at >= len(first) {
				want = []string{"a", "bcd"}
			}
			if at >= len(first+second) {
				want = append(want, "e")
			}
			open(t, written(map[int]string{4: turned(whole, at, with), 5: commit("z")}), append(want, "z")...)
		}
		for at := range check {
			d := written(map[int]string{4: whole, 5: turned(check, at, with)})
			has(t, open(t, d, "a", "bcd", "e", "f"), 0, 4, 5)
		}
	}
}

// turned answers b with another byte at a place.
func turned(b string, at, with int) string {
	return b[:at] + string([]byte{b[at] ^ byte(with)}) + b[at+1:]
}

// 6.1: bytes that are no frames at all.
func TestJunk(t *testing.T) {
	for _, b := range []string{"\x00", "junk", "\x00" + commit("a"), "\xff" + commit("a"), of(5000), laid(1, "a")[:9]} {
		d := written(map[int]string{3: b})
		l := open(t, d)
		has(t, l, 0, 3)
		is(t, "Commit", l.Commit(list("b")), api.OK)
		has(t, l, len(commit("b")), 3, 4)
		open(t, d, "b")
	}
}

// 6.1: files ahead of the checkpoint's are Removed, and no Sync is asked for;
// a crash that brings them back turns nothing.
func TestOpenRemoves(t *testing.T) {
	files := map[int]string{0: commit("a"), 2: checkpoint("b"), 3: "junk", 5: commit("c") + checkpoint("k") + commit("n"), 6: commit("o")}
	for done := range 4 {
		d := written(files)
		works := d.Works()
		l := open(t, d, "k", "n", "o")
		has(t, l, 0, 5, 6)
		if d.Works() != works+3 || d.Pending() != 3 {
			t.Fatalf("%d works, %d pend; not 3 of both", d.Works()-works, d.Pending())
		}
		d.Crash(done, 0)
		want := []int{0, 2, 3, 5, 6}[done:]
		has(t, l, 0, want...)
		l = open(t, d, "k", "n", "o")
		is(t, "Commit", l.Commit(list("p")), api.OK)
		has(t, l, len(commit("p")), 5, 6, 7)
		open(t, d, "k", "n", "o", "p")
	}
}

// 6.1: where there is no checkpoint, and where it stands in the first file,
// Open does no work.
func TestOpenRemovesNothing(t *testing.T) {
	for _, files := range []map[int]string{
		{}, {0: commit("k")}, {4: commit("k"), 9: laid(3, "m")}, {7: commit("a") + checkpoint("k")},
		{7: checkpoint("k"), 8: laid(3, "m") + laid(3, "n")},
	} {
		d := written(files)
		works, there := d.Works(), d.Files()
		if _, _, e := wal.Open(d, api.MinSegment); e != api.OK || d.Works() != works || !slices.Equal(d.Files(), there) {
			t.Errorf("files %v: %d works, files %v, error %d", there, d.Works()-works, d.Files(), e)
		}
	}
}

// 6.1: no error of the disk is told where Open removes; and the log, which has
// told none, goes on when the disk does.
func TestOpenTellsNoErrorOfRemove(t *testing.T) {
	for fuse := range 3 {
		d := written(map[int]string{0: commit("a"), 1: commit("b"), 2: commit("c"), 3: checkpoint("k")})
		d.Fuse(fuse)
		l := open(t, d, "k")
		if !d.Dead() {
			t.Fatalf("fuse %d: the disk is not dead", fuse)
		}
		refused(t, "dead", d, api.MinSegment, api.ErrDown)
		has(t, l, 0)
		d.Crash(0, 0)
		is(t, "Commit", l.Commit(list("d")), api.OK)
		has(t, l, len(commit("d")), 0, 1, 2, 3, 4)
		open(t, d, "k", "d")
	}
}

// 6.1: ErrForm of a file ahead of a checkpoint is told, too; nothing is
// removed then (refused holds it to that).
func TestErrFormAnywhere(t *testing.T) {
	bad := laid(1, "a") + laid(4, "")
	for at := range 3 {
		files := map[int]string{0: commit("a"), 1: checkpoint("k"), 2: commit("b")}
		files[at] += bad
		refused(t, fmt.Sprint("file ", at), written(files), api.MinSegment, api.ErrForm)
	}
}

// 6.1, R6: behind the greatest number that a file can have there is none: a
// commit is not OK there, and nothing is lost.
func TestNoSegmentIsLeft(t *testing.T) {
	d := written(map[int]string{math.MaxInt: commit("a")})
	l := open(t, d, "a")
	ahead := tellDisk(d)
	is(t, "Commit", l.Commit(list("b")), api.ErrDown)
	is(t, "Checkpoint", l.Checkpoint(list("b")), api.ErrDown)
	is(t, "Commit of none", l.Commit(nil), api.OK)
	if now := tellDisk(d); now != ahead {
		t.Errorf("%s; not %s", now, ahead)
	}
	d = written(map[int]string{math.MaxInt - 1: commit("a")})
	l = open(t, d, "a")
	is(t, "Commit", l.Commit(list(of(api.MinSegment))), api.OK)
	is(t, "Checkpoint", l.Checkpoint(list("b")), api.ErrDown)
	open(t, d, "a", of(api.MinSegment))
	l = open(t, written(map[int]string{math.MaxInt - 1: commit("a")}), "a")
	is(t, "Commit", l.Commit(list(of(api.MinSegment))), api.OK)
	is(t, "Commit", l.Commit(list("b")), api.ErrDown)
}
