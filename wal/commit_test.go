package wal_test

import (
	"fmt"
	"testing"

	"cutover/api"
	"cutover/disk"
	"cutover/wal"
)

// 6.2: ahead of its first commit a log has nothing and has done nothing.
func TestNewLog(t *testing.T) {
	d := disk.New()
	has(t, open(t, d), 0)
	if d.Works() != 0 {
		t.Errorf("%d works", d.Works())
	}
}

// 6.2: a Commit of none is OK, and nothing, whatever the disk is.
func TestCommitOfNone(t *testing.T) {
	d := disk.New()
	l := open(t, d)
	for _, fall := range []bool{false, true} {
		if fall {
			is(t, "Commit", l.Commit(list("a")), api.OK)
			d.Fuse(0)
			is(t, "Commit", l.Commit(list("b")), api.ErrDown)
		}
		ahead := tellDisk(d)
		is(t, "Commit of none", l.Commit(nil), api.OK)
		is(t, "Commit of none", l.Commit([][]byte{}), api.OK)
		if now := tellDisk(d); now != ahead {
			t.Errorf("%s; not %s", now, ahead)
		}
	}
}

// 6.2: records of no bytes are records.
func TestRecordsOfNoBytes(t *testing.T) {
	d := disk.New()
	l := open(t, d)
	is(t, "Commit", l.Commit([][]byte{nil}), api.OK)
	is(t, "Commit", l.Commit(list("", "a", "")), api.OK)
	open(t, d, "", "", "a", "")
	is(t, "Checkpoint", l.Checkpoint([][]byte{nil, {}}), api.OK)
	open(t, d, "", "")
}

// 6.2: a record may have MaxCommit bytes; of a longer one, at any place, all
// is refused, ahead of ErrDown, and nothing is turned.
func TestLongRecords(t *testing.T) {
	long, longer := of(api.MaxCommit), of(api.MaxCommit+1)
	d := disk.New()
	l := open(t, d)
	is(t, "Commit", l.Commit(list("a")), api.OK)
	for _, fall := range []bool{false, true} {
		if fall {
			d.Fuse(0)
			is(t, "Commit", l.Commit(list("b")), api.ErrDown)
		}
		ahead, size := tellDisk(d), l.Size()
		for at := range 3 {
			records := list("x", "y", "z")
			records[at] = []byte(longer)
			is(t, "Commit", l.Commit(records), api.ErrArg)
			is(t, "Checkpoint", l.Checkpoint(records), api.ErrArg)
		}
		if now := tellDisk(d); now != ahead || l.Size() != size {
			t.Errorf("%s, size %d; not %s, %d", now, l.Size(), ahead, size)
		}
	}
	d.Crash(0, 0)
	l = open(t, d, "a")
	is(t, "Commit", l.Commit(list(long, "b", long)), api.OK)
	open(t, d, "a", long, "b", long)
	is(t, "Checkpoint", l.Checkpoint(list(long)), api.OK)
	open(t, d, long)
}

// 6.2: a commit is one Append of all its frames, and a Sync.
func TestCommitWorks(t *testing.T) {
	all := commit("a", "b", "c")
	for _, c := range []struct {
		fuse  int
		want  api.Errno
		pends int
	}{{0, api.ErrDown, 0}, {1, api.ErrDown, 1}, {2, api.OK, 0}} {
		d := disk.New()
		l := open(t, d)
		d.Fuse(c.fuse)
		is(t, fmt.Sprint("fuse ", c.fuse), l.Commit(list("a", "b", "c")), c.want)
		if d.Works() != c.fuse || d.Pending() != c.pends {
			t.Errorf("fuse %d: %s", c.fuse, tellDisk(d))
		}
		d.Crash(d.Pending(), 0)
		if got := string(d.Read(0)); (got == all) != (c.fuse > 0) || c.fuse == 0 && got != "" {
			t.Errorf("fuse %d: %q", c.fuse, got)
		}
	}
}

// 6.2: a segment that has segment bytes or more takes no more commits; one
// that has fewer takes one of any length.
func TestSegmentIsFull(t *testing.T) {
	frame := len(commit("")) // of one record, without its bytes
	for _, segment := range []int{api.MinSegment, api.MinSegment + 1, 1000, api.MaxSegment} {
		for _, c := range []struct {
			size int
			full bool
		}{{segment - 1, false}, {segment, true}, {segment + 1, true}} {
			d := disk.New()
			l, _, _ := wal.Open(d, segment)
			is(t, "Commit", l.Commit(list("a")), api.OK)
			is(t, "Commit", l.Commit(list(of(c.size-len(commit("a"))-frame))), api.OK)
			has(t, l, c.size, 0)
			is(t, "Commit of none", l.Commit(nil), api.OK)
			has(t, l, c.size, 0)
			is(t, "Commit", l.Commit(list(of(300))), api.OK)
			if next := frame + 300; c.full {
				has(t, l, next, 0, 1)
			} else {
				has(t, l, c.size+next, 0)
			}
		}
	}
}

// 6.2: segment behind segment, by their numbers, also behind those that an
// earlier log has left.
func TestSegmentsGoOn(t *testing.T) {
	d := written(map[int]string{4: commit("a")})
	l := open(t, d, "a")
	want := []string{"a"}
	segments := []int{4}
	for i := range 12 {
		s := of(110 + i) // two of them fill a segment
		want = append(want, s)
		is(t, "Commit", l.Commit(list(s)), api.OK)
		if i%2 == 0 {
			segments = append(segments, 5+i/2)
		}
		size := len(commit(s))
		if i%2 == 1 {
			size += len(commit(want[i]))
		}
		has(t, l, size, segments...)
		open(t, d, want...)
	}
}

// 6.2: a checkpoint goes into the segment that is written to, if that has no
// bytes, else into the next one, however many it has; and commits go on there
// till it is full.
func TestCheckpoint(t *testing.T) {
	d := disk.New()
	l := open(t, d)
	is(t, "Checkpoint", l.Checkpoint(list("k")), api.OK)
	has(t, l, len(checkpoint("k")), 0)
	is(t, "Checkpoint", l.Checkpoint(nil), api.OK)
	has(t, l, len(checkpoint()), 1)
	is(t, "Commit", l.Commit(list("a")), api.OK)
	has(t, l, len(checkpoint()+commit("a")), 1)
	open(t, d, "a")
	is(t, "Checkpoint", l.Checkpoint(list("m", "n")), api.OK)
	has(t, l, len(checkpoint("m", "n")), 2)
	l = open(t, d, "m", "n")
	has(t, l, 0, 2)
	is(t, "Checkpoint", l.Checkpoint(list(of(600))), api.OK)
	has(t, l, len(checkpoint(of(600))), 3)
	is(t, "Checkpoint", l.Checkpoint(list(of(700))), api.OK)
	has(t, l, len(checkpoint(of(700))), 4)
	is(t, "Commit", l.Commit(list("b")), api.OK)
	has(t, l, len(commit("b")), 4, 5)
	open(t, d, of(700), "b")
	is(t, "Checkpoint", l.Checkpoint(nil), api.OK)
	has(t, l, len(checkpoint()), 6)
	open(t, d)
}

// 6.2: the segments ahead are all the disk's files ahead, whoever wrote them;
// those behind stay.
func TestCheckpointRemovesFilesAhead(t *testing.T) {
	d := written(map[int]string{2: commit("a"), 7: "junk"})
	l := open(t, d, "a")
	d.Append(0, []byte(commit("z")))
	d.Append(5, []byte(commit("y")))
	d.Append(20, []byte(commit("b")))
	is(t, "Checkpoint", l.Checkpoint(list("k")), api.OK)
	has(t, l, len(checkpoint("k")), 8, 20)
	open(t, d, "k", "b")
}

// 6.2: the works of a checkpoint, one by one: an Append, a Sync, the Removes,
// rising, a Sync; each may be the one at which the disk falls.
func TestCheckpointWorks(t *testing.T) {
	for _, c := range []struct {
		fuse, pends int
		none, all   string
	}{
		{0, 0, "[0 1 2]", "[0 1 2]"}, {1, 1, "[0 1 2]", "[0 1 2 3]"}, {2, 0, "[0 1 2 3]", "[0 1 2 3]"},
		{3, 1, "[0 1 2 3]", "[1 2 3]"}, {4, 2, "[0 1 2 3]", "[2 3]"}, {5, 3, "[0 1 2 3]", "[3]"},
		{6, 0, "[3]", "[3]"},
	} {
		for _, all := range []bool{false, true} {
			d := written(map[int]string{0: commit("a"), 1: commit("b")})
			l := open(t, d, "a", "b")
			is(t, "Commit", l.Commit(list("c")), api.OK)
			d.Fuse(c.fuse)
			works := d.Works()
			e, done, want := l.Checkpoint(list("k", "m")), 0, c.none
			if (e == api.OK) != (c.fuse == 6) || e != api.OK && e != api.ErrDown {
				t.Fatalf("fuse %d: error %d", c.fuse, e)
			}
			if d.Works()-works != c.fuse || d.Pending() != c.pends {
				t.Fatalf("fuse %d: %d works, %d pend", c.fuse, d.Works()-works, d.Pending())
			}
			if all {
				done, want = d.Pending(), c.all
			}
			d.Crash(done, 0)
			if got := fmt.Sprint(d.Files()); got != want {
				t.Errorf("fuse %d: files %s, not %s", c.fuse, got, want)
			}
		}
	}
}

// 6.2: where there is nothing to remove the second Sync is asked for, too.
func TestCheckpointSyncsTwice(t *testing.T) {
	d := disk.New()
	l := open(t, d)
	is(t, "Checkpoint", l.Checkpoint(nil), api.OK)
	if d.Works() != 3 {
		t.Errorf("%d works, not 3", d.Works())
	}
}

// 6.2: a log that has told ErrDown goes on telling it, though the disk works
// again, and does no work.
func TestDown(t *testing.T) {
	for name, fall := range map[string]func(*wal.Log) api.Errno{
		"Commit":             func(l *wal.Log) api.Errno { return l.Commit(list("b")) },
		"Checkpoint":         func(l *wal.Log) api.Errno { return l.Checkpoint(list("k")) },
		"Checkpoint of none": func(l *wal.Log) api.Errno { return l.Checkpoint(nil) },
	} {
		for fuse := range 2 {
			d := disk.New()
			l := open(t, d)
			is(t, "Commit", l.Commit(list("a")), api.OK)
			d.Fuse(fuse)
			is(t, name, fall(l), api.ErrDown)
			for _, up := range []bool{false, true} {
				if up {
					d.Crash(0, 3)
				}
				ahead := tellDisk(d)
				is(t, "Commit", l.Commit(list("z")), api.ErrDown)
				is(t, "Checkpoint", l.Checkpoint(list("z")), api.ErrDown)
				is(t, "Checkpoint of none", l.Checkpoint(nil), api.ErrDown)
				is(t, "Commit of none", l.Commit(nil), api.OK)
				is(t, "too long", l.Commit(list(of(api.MaxCommit+1))), api.ErrArg)
				if now := tellDisk(d); now != ahead {
					t.Errorf("behind %s: %s; not %s", name, now, ahead)
				}
			}
			open(t, d, "a")
		}
	}
}

// 6.2: likewise where a checkpoint was kept, and what came behind that failed.
func TestDownAtRemoves(t *testing.T) {
	for fuse := 2; fuse < 4; fuse++ {
		d := disk.New()
		l := open(t, d)
		is(t, "Commit", l.Commit(list("a")), api.OK)
		d.Fuse(fuse)
		is(t, "Checkpoint", l.Checkpoint(list("k")), api.ErrDown)
		d.Crash(0, 0)
		is(t, "Commit", l.Commit(list("z")), api.ErrDown)
		is(t, "Checkpoint", l.Checkpoint(nil), api.ErrDown)
		open(t, d, "k")
	}
}

// 6.2: a disk that was dead when nobody asked the log is none of its matter;
// and of a dead disk there are no segments.
func TestDeadDisk(t *testing.T) {
	d := disk.New()
	l := open(t, d)
	is(t, "Commit", l.Commit(list("a")), api.OK)
	d.Fuse(0)
	d.Sync()
	if s := l.Segments(); len(s) > 0 {
		t.Errorf("segments %v", s)
	}
	d.Crash(0, 0)
	is(t, "Commit", l.Commit(list("b")), api.OK)
	has(t, l, len(commit("a")+commit("b")), 0)
	open(t, d, "a", "b")
}

// R3: a Commit and a Checkpoint that the disk did not take turn no Size, nor
// where they would have gone into a new segment.
func TestSizeOfDown(t *testing.T) {
	for fuse := range 2 {
		for _, first := range []string{"a", of(api.MinSegment)} {
			for _, does := range []func(*wal.Log) api.Errno{
				func(l *wal.Log) api.Errno { return l.Commit(list("b")) },
				func(l *wal.Log) api.Errno { return l.Checkpoint(list("b")) },
			} {
				d := disk.New()
				l := open(t, d)
				is(t, "Commit", l.Commit(list(first)), api.OK)
				d.Fuse(fuse)
				is(t, "behind the fuse", does(l), api.ErrDown)
				if l.Size() != len(commit(first)) {
					t.Errorf("size %d, not %d", l.Size(), len(commit(first)))
				}
			}
		}
	}
}

// R2: what is handed in is neither turned nor kept, its spare room included.
func TestArgumentsAreLeftAlone(t *testing.T) {
	d := disk.New()
	l := open(t, d)
	for name, does := range map[string]func([][]byte) api.Errno{"Commit": l.Commit, "Checkpoint": l.Checkpoint} {
		room := []byte("abcdef")
		records := append(make([][]byte, 0, 4), room[:2], room[2:3])
		is(t, name, does(records), api.OK)
		if string(room) != "abcdef" || tell(records[:4]) != `["ab" "c" "" ""]` {
			t.Errorf("%s turned %q, %s", name, room, tell(records[:4]))
		}
		ahead := tellDisk(d)
		scribble(room, '!')
		scribble(records, []byte("!"))
		if now := tellDisk(d); now != ahead {
			t.Errorf("%s kept what it was given: %s; not %s", name, now, ahead)
		}
	}
}

// R2: answers are new memory, each list of them.
func TestAnswersAreNew(t *testing.T) {
	d := disk.New()
	l := open(t, d)
	is(t, "Checkpoint", l.Checkpoint(list("k", "m")), api.OK)
	is(t, "Commit", l.Commit(list("abc", "", "d")), api.OK)
	scribble(l.Segments(), 77)
	has(t, l, len(checkpoint("k", "m")+commit("abc", "", "d")), 0)
	ahead := tellDisk(d)
	_, records, _ := wal.Open(d, api.MinSegment)
	want := []string{"k", "m", "abc", "", "d"}
	for i := range records {
		scribble(records[i], '!')
		for j := i + 1; j < len(records); j++ {
			if string(records[j]) != want[j] {
				t.Fatalf("record %d has turned with %d", j, i)
			}
		}
	}
	scribble(records, nil)
	if now := tellDisk(d); now != ahead {
		t.Errorf("%s; not %s", now, ahead)
	}
	open(t, d, want...)
}

// Asking turns nothing.
func TestAsking(t *testing.T) {
	d := disk.New()
	l := open(t, d)
	is(t, "Commit", l.Commit(list(of(api.MinSegment))), api.OK)
	ahead := tellDisk(d)
	for range 3 {
		has(t, l, len(commit(of(api.MinSegment))), 0)
	}
	if now := tellDisk(d); now != ahead {
		t.Errorf("%s; not %s", now, ahead)
	}
}

// R7: logs of two disks know nothing of one another.
func TestLogsAreApart(t *testing.T) {
	d, other := disk.New(), disk.New()
	l, m := open(t, d), open(t, other)
	d.Fuse(0)
	is(t, "Commit", l.Commit(list("a")), api.ErrDown)
	is(t, "Commit", m.Commit(list("b")), api.OK)
	has(t, m, len(commit("b")), 0)
	has(t, l, 0)
	open(t, other, "b")
}

// R1: none panics, though of these nothing is promised.
func TestNilLog(t *testing.T) {
	for _, l := range []*wal.Log{nil, {}} {
		if e := l.Commit(list("a")); e == api.OK {
			t.Error("a Commit that nobody keeps is OK")
		}
		if e := l.Checkpoint(nil); e == api.OK {
			t.Error("a Checkpoint that nobody keeps is OK")
		}
		l.Commit(nil)
		has(t, l, 0)
	}
}
