package kv_test

import (
	"fmt"
	"maps"
	"math/rand"
	"slices"
	"strings"
	"testing"

	"cutover/api"
	"cutover/disk"
	"cutover/kv"
)

// step is one that a store is told: 'c' a Commit, 'k' a Checkpoint, 'o' another
// Open.
type step struct {
	kind byte
	l    []api.Change
}

// play is a store, and what 7.3 lets one have that is opened: what its commits
// that were OK made, and that with the one that is under way.
type play struct {
	d     *disk.Disk
	s     *kv.Store
	kept  model
	under *step
}

// newPlay answers one of a new disk.
func newPlay(t *testing.T) *play {
	t.Helper()
	p := &play{d: disk.New(), kept: model{}}
	p.open(t)
	return p
}

// open holds an Open, twice, to what the store may have, and goes on from
// there.
func (p *play) open(t *testing.T) {
	t.Helper()
	s, e := kv.Open(p.d, api.MinSegment)
	if e != api.OK {
		t.Fatalf("Open: error %d: %s", e, tellDisk(p.d))
	}
	if p.under != nil && tell(s) != p.kept.tell() {
		p.kept = p.kept.turned(p.under.l)
	}
	same(t, s, p.kept)
	p.s, p.under = s, nil
	if p.d.Dead() {
		return
	}
	if again, e := kv.Open(p.d, api.MinSegment); e != api.OK || tell(again) != tell(s) {
		t.Fatalf("opened twice: %s, error %d; not %s", tell(again), e, tell(s))
	}
}

// do has the store do one step, and answers whether that went well.
func (p *play) do(t *testing.T, s step) bool {
	t.Helper()
	if s.kind == 'o' {
		if p.d.Dead() {
			refused(t, "dead", p.d, api.MinSegment, api.ErrDown)
			return false
		}
		p.open(t)
		return true
	}
	ahead, e := p.s.Dead(), api.OK
	if s.kind == 'c' {
		e = p.s.Commit(s.l)
	} else {
		e = p.s.Checkpoint()
	}
	switch {
	case e == api.OK && !ahead:
		p.kept = p.kept.turned(s.l)
		same(t, p.s, p.kept)
		return true
	case e != api.ErrDown:
		t.Fatalf("error %d, dead %v", e, ahead)
	case !ahead:
		p.under = &s
	}
	isDead(t, p.s, slices.Collect(maps.Keys(p.kept))...)
	return false
}

// script answers steps by texts: k, o, or the words of a commit.
func script(texts ...string) []step {
	var steps []step
	for _, s := range texts {
		switch s {
		case "k", "o":
			steps = append(steps, step{kind: s[0]})
		default:
			steps = append(steps, step{'c', changes(s)})
		}
	}
	return steps
}

// 7.3, W5: the disk falls at each work, and each part of what pended is done,
// cut at each byte; then the store goes on.
func TestFallsAnywhere(t *testing.T) {
	for _, steps := range [][]step{
		script("a=1 b=1", "a=2 -b", "b=3 a=4 c="),
		script("a=1", "k", "a=2 b=2", "k", "-a"),
		script("a="+of(120), "b="+of(110), "a= c=1", "-b", "k", "c=2"),
		script("k", "k", "a=1 a=2 -a b=1", "k"),
		script("a=1", "o", "b=2 -a", "o", "k", "o", "a=3 b=4", "o"),
		script("a="+of(250), "-a b="+of(250), "k", "o", "b=1", "k", "-b a=2"),
	} {
		for works := 0; fallsAt(t, steps, works); works++ {
		}
	}
}

// fallsAt holds all crashes behind so many works to 7.3, and answers whether
// the steps need more.
func fallsAt(t *testing.T, steps []step, works int) bool {
	t.Helper()
	for done := 0; ; done++ {
		for cut := 0; ; cut++ {
			p := newPlay(t)
			p.d.Fuse(works)
			for _, s := range steps {
				if !p.do(t, s) {
					break
				}
			}
			if !p.d.Dead() {
				return false
			}
			pends := p.d.Pending()
			p.d.Crash(done, cut)
			p.open(t)
			// What pends now is what Open removed: it may come back.
			p.d.Crash(cut, done)
			p.open(t)
			p.do(t, step{'c', changes("a=again -b z=9")})
			p.open(t)
			p.do(t, step{kind: 'k'})
			p.open(t)
			if done >= pends {
				return true
			}
			if cut > 300 {
				break
			}
		}
	}
}

// 7.3: a commit is there whole or not at all, though the crash leaves whole
// records of it: with its last byte, and not ahead of it.
func TestWholeOrNotAtAll(t *testing.T) {
	words := "a=2 -b c=3 d="
	whole := commit(records(words)...)
	for cut := range len(whole) + 1 {
		d := disk.New()
		s := open(t, d, "")
		is(t, "Commit", s.Commit(changes("a=1 b=1")), api.OK)
		d.Fuse(1)
		is(t, "Commit", s.Commit(changes(words)), api.ErrDown)
		d.Crash(0, cut)
		want := "a=1 b=1"
		if cut == len(whole) {
			want = "a=2 c=3 d="
		}
		s = open(t, d, want)
		is(t, "Commit", s.Commit(changes("e=5")), api.OK)
		open(t, d, want+" e=5")
	}
}

// 7.3: what was OK is there whatever is lost: nothing of it pends.
func TestNothingPends(t *testing.T) {
	p := newPlay(t)
	for _, s := range script("a=1 b=2", "b="+of(300), "-a c=", "k", "c=1", "k", "-b -c", "k") {
		if !p.do(t, s) || p.d.Pending() != 0 {
			t.Fatalf("%v: %s", s, tellDisk(p.d))
		}
		p.d.Crash(0, 0)
		p.open(t)
	}
}

// 7.3: a checkpoint never turns a pair, wherever it falls, over and over.
func TestCheckpointTurnsNothing(t *testing.T) {
	p := newPlay(t)
	p.do(t, step{'c', changes("a=1 b=2 c=3 -b")})
	want := p.kept.tell()
	for works := range 12 {
		for cut := range 120 {
			p.d.Fuse(works % 6)
			p.do(t, step{kind: 'k'})
			p.d.Crash(cut/40, cut)
			p.open(t)
			if tell(p.s) != want {
				t.Fatalf("%d works, %d: %s, not %s", works, cut, tell(p.s), want)
			}
		}
	}
}

// any does a step, a fuse or a crash that is picked. A store that is dead is
// opened again behind the crash; one that is not may as well go on.
func (p *play) any(t *testing.T, pick *rand.Rand) {
	t.Helper()
	var l []api.Change
	for range pick.Intn(5) {
		key := "abcd"[:pick.Intn(2)+1] + fmt.Sprint(pick.Intn(4))
		if pick.Intn(3) == 0 {
			l = append(l, gone(key))
			continue
		}
		l = append(l, has(key, strings.Repeat(string(rune('a'+pick.Intn(26))), pick.Intn(90))))
	}
	switch n := pick.Intn(20); {
	case n < 9:
		p.do(t, step{'c', l})
	case n < 11:
		p.do(t, step{kind: 'k'})
	case n < 13:
		p.d.Fuse(pick.Intn(12))
	case n < 14:
		p.d.Fuse(-1)
	case n < 17:
		p.d.Crash(pick.Int()-pick.Int(), pick.Int()-pick.Int())
		if p.s.Dead() || pick.Intn(2) == 0 {
			p.open(t)
		}
	case n < 18:
		at := pick.Intn(len(l) + 1)
		p.refuses(t, slices.Insert(l, at, wrong()[pick.Intn(len(wrong()))]))
	default:
		p.do(t, step{kind: 'o'})
	}
}

// refuses has the store refuse l, by what it is.
func (p *play) refuses(t *testing.T, l []api.Change) {
	t.Helper()
	if p.s.Dead() {
		is(t, "Commit", p.s.Commit(l), api.ErrDown)
		return
	}
	is(t, "Commit", p.s.Commit(l), api.ErrArg)
	same(t, p.s, p.kept)
}

// 7.2, 7.3, W5: steps, fuses, crashes and Opens in any order, over and over on
// one disk.
func TestAnyPlay(t *testing.T) {
	for seed := range int64(300) {
		pick := rand.New(rand.NewSource(seed))
		p := newPlay(t)
		for range 120 {
			p.any(t, pick)
		}
		p.d.Crash(pick.Int(), pick.Int())
		p.open(t)
	}
}

// R4: the same again tells the same.
func TestTheSameAgain(t *testing.T) {
	told := map[string]int{}
	for range 5 {
		p := newPlay(t)
		pick := rand.New(rand.NewSource(7))
		for range 300 {
			p.any(t, pick)
		}
		told[tellDisk(p.d)+tell(p.s)]++
	}
	if len(told) != 1 {
		t.Errorf("told in %d ways", len(told))
	}
}
