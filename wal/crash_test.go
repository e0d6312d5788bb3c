package wal_test

import (
	"fmt"
	"math/rand"
	"slices"
	"strings"
	"testing"

	"cutover/api"
	"cutover/disk"
	"cutover/wal"
)

// step is one that a log is told: 'c' a Commit, 'k' a Checkpoint, 'o' another
// Open.
type step struct {
	kind    byte
	records []string
}

// behind answers what there is behind a step that went well.
func (s step) behind(records []string) []string {
	switch s.kind {
	case 'c':
		return slices.Concat(records, s.records)
	case 'k':
		return s.records
	}
	return records
}

// play is a log, and what 6.3 lets Open answer: the records of all that was
// OK, and, if a step is under way, those with it.
type play struct {
	d     *disk.Disk
	l     *wal.Log
	kept  []string
	under *step
}

// newPlay answers one of a new disk.
func newPlay(t *testing.T) *play {
	t.Helper()
	p := &play{d: disk.New()}
	p.open(t)
	return p
}

// open holds Open, twice, to what it may answer, and goes on from there.
func (p *play) open(t *testing.T) {
	t.Helper()
	l, records, e := wal.Open(p.d, api.MinSegment)
	if e != api.OK {
		t.Fatalf("Open: error %d: %s", e, tellDisk(p.d))
	}
	got, may := tell(records), []string{tell(p.kept)}
	if p.under != nil {
		may = append(may, tell(p.under.behind(p.kept)))
	}
	if !slices.Contains(may, got) {
		t.Fatalf("Open: %s, not of %s", got, may)
	}
	if _, again, e := wal.Open(p.d, api.MinSegment); !p.d.Dead() && (e != api.OK || tell(again) != got) {
		t.Fatalf("opened twice: %s, error %d; not %s", tell(again), e, got)
	}
	p.l, p.kept, p.under = l, nil, nil
	for _, r := range records {
		p.kept = append(p.kept, string(r))
	}
}

// do has the log do s, and answers whether that went well.
func (p *play) do(t *testing.T, s step) bool {
	t.Helper()
	if s.kind == 'o' {
		if p.d.Dead() {
			refused(t, "dead", p.d, api.MinSegment, api.ErrDown)
			return false
		}
		p.open(t)
		return true
	}
	does := p.l.Commit
	if s.kind == 'k' {
		does = p.l.Checkpoint
	}
	switch e := does(list(s.records...)); {
	case e == api.OK:
		p.kept = s.behind(p.kept)
		return true
	case e != api.ErrDown:
		t.Fatalf("error %d", e)
	case p.under == nil:
		p.under = &s
	}
	return false
}

// script answers steps by words: a letter, and the lengths of records.
func script(s string) []step {
	var steps []step
	for at, word := range strings.Fields(s) {
		one := step{kind: word[0]}
		for i, c := range strings.Split(word[1:], ",") {
			n := 0
			if fmt.Sscan(c, &n); c == "" {
				continue
			}
			one.records = append(one.records, strings.Repeat(string(rune('a'+at)), n)+fmt.Sprint(i))
		}
		steps = append(steps, one)
	}
	return steps
}

// longest answers the greatest Append of steps.
func longest(steps []step) int {
	most := 0
	for _, s := range steps {
		most = max(most, len(commit(s.records...)))
	}
	return most
}

// 6.3: the disk falls at each work, and each part of what pended is done, cut
// at each byte; then the log goes on.
func TestFallsAnywhere(t *testing.T) {
	for _, text := range []string{
		"c1 c2,3 c0", "c1 k2,1 c3", "c100 c120 c20 c30", "c230 k10,10 c1 k", "k k3 c1",
		"c1 o c2 o k1 o c2", "c240 c250 o k1,2 c3 o k c5",
	} {
		steps := script(text)
		for works := 0; fallsAt(t, steps, works); works++ {
		}
	}
}

// fallsAt holds all crashes behind so many works to 6.3, and answers whether
// the steps need more.
func fallsAt(t *testing.T, steps []step, works int) bool {
	t.Helper()
	most := longest(steps)
	for done := 0; ; done++ {
		pends := 0
		for cut := range most + 1 {
			p := newPlay(t)
			p.d.Fuse(works)
			for _, s := range steps {
				if !p.do(t, s) {
					break
				}
			}
			if !p.d.Dead() {
				return false
			}
			pends = p.d.Pending()
			p.d.Crash(done, cut)
			p.open(t)
			// What pends now is what Open removed: it may come back.
			p.d.Crash(cut, done)
			p.open(t)
			p.do(t, step{'c', []string{"z"}})
			p.open(t)
			p.do(t, step{'k', []string{"y"}})
			p.open(t)
			if len(p.kept) != 1 || p.kept[0] != "y" {
				t.Fatalf("%d works, %d, %d: %s", works, done, cut, tell(p.kept))
			}
		}
		if done >= pends {
			return true
		}
	}
}

// 6.3: a commit that was OK is there whatever pends elsewhere is lost: nothing
// of it pends.
func TestNothingPends(t *testing.T) {
	p := newPlay(t)
	for _, s := range script("c1 c300 c2 k3,4 c5 k c6") {
		if !p.do(t, s) || p.d.Pending() != 0 {
			t.Fatalf("%q: %s", s.records, tellDisk(p.d))
		}
		p.d.Crash(0, 0)
		p.open(t)
	}
}

// 6.3: a commit is there whole or not at all, though the crash leaves whole
// records of it.
func TestWholeOrNotAtAll(t *testing.T) {
	whole := commit("b", "c", "d")
	for cut := range len(whole) + 1 {
		d := disk.New()
		l := open(t, d)
		is(t, "Commit", l.Commit(list("a")), api.OK)
		d.Fuse(1)
		is(t, "Commit", l.Commit(list("b", "c", "d")), api.ErrDown)
		d.Crash(0, cut)
		want := []string{"a"}
		if cut == len(whole) {
			want = []string{"a", "b", "c", "d"}
		}
		l = open(t, d, want...)
		is(t, "Commit", l.Commit(list("e")), api.OK)
		open(t, d, append(want, "e")...)
	}
}

// 6.3: likewise a checkpoint: ahead of its mark all is as it was.
func TestCheckpointWholeOrNotAtAll(t *testing.T) {
	whole := checkpoint("k", "m")
	for cut := range len(whole) + 1 {
		d := disk.New()
		l := open(t, d)
		is(t, "Commit", l.Commit(list("a", "b")), api.OK)
		d.Fuse(1)
		is(t, "Checkpoint", l.Checkpoint(list("k", "m")), api.ErrDown)
		d.Crash(0, cut)
		if cut == len(whole) {
			open(t, d, "k", "m")
			continue
		}
		open(t, d, "a", "b")
	}
}

// any does a step, a fuse or a crash that is picked. A log that is down is
// opened again behind the crash; one that is not may as well go on.
func (p *play) any(t *testing.T, pick *rand.Rand) {
	t.Helper()
	var records []string
	for range pick.Intn(4) {
		records = append(records, strings.Repeat(string(rune('a'+pick.Intn(26))), pick.Intn(120)))
	}
	switch n := pick.Intn(20); {
	case n < 9:
		p.do(t, step{'c', records})
	case n < 12:
		p.do(t, step{'k', records})
	case n < 14:
		p.d.Fuse(pick.Intn(12))
	case n < 15:
		p.d.Fuse(-1)
	case n < 18:
		p.d.Crash(pick.Int()-pick.Int(), pick.Int()-pick.Int())
		if p.under != nil || pick.Intn(2) == 0 {
			p.open(t)
		}
	default:
		p.do(t, step{kind: 'o'})
	}
}

// 6.3: steps, fuses, crashes and Opens in any order, over and over on one
// disk.
func TestAnyPlay(t *testing.T) {
	for seed := range int64(300) {
		pick := rand.New(rand.NewSource(seed))
		p := newPlay(t)
		for range 150 {
			p.any(t, pick)
		}
		p.d.Crash(pick.Int(), pick.Int())
		p.open(t)
	}
}

// R4: the same again tells the same.
func TestTheSameAgain(t *testing.T) {
	told := ""
	for range 3 {
		p := newPlay(t)
		pick := rand.New(rand.NewSource(5))
		for range 300 {
			p.any(t, pick)
		}
		if s := tellDisk(p.d); told != "" && s != told {
			t.Fatalf("%s; not %s", s, told)
		} else {
			told = s
		}
	}
}
