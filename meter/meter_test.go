package meter_test

import (
	"math"
	"math/big"
	"math/rand"
	"runtime"
	"sync"
	"sync/atomic"
	"testing"
	"time"

	"cutover/meter"
)

// noKinds are numbers beside the kinds, some of which come to one if their
// upper bits are lost.
var noKinds = []int{-1, -2, meter.Kinds, meter.Kinds + 1, 99, 256, 1 << 32, -(1 << 32), math.MaxInt, math.MinInt}

// mustAll holds all of m's counters, asked for together and one by one,
// against want.
func mustAll(t *testing.T, m *meter.Meter, want [meter.Kinds]int) {
	t.Helper()
	if got := m.All(); got != want {
		t.Errorf("All: %v, not %v", got, want)
	}
	for kind, n := range want {
		if got := m.Value(kind); got != n {
			t.Errorf("Value(%d): %d, not %d", kind, got, n)
		}
	}
}

// atOnce runs work in many goroutines that are let go together, and tells
// each of them which it is.
func atOnce(many int, work func(which int)) {
	var all sync.WaitGroup
	gate := make(chan struct{})
	for which := range many {
		all.Add(1)
		go func() {
			defer all.Done()
			<-gate
			work(which)
		}()
	}
	close(gate)
	all.Wait()
}

// inStep runs work in many goroutines, round by round: none begins a round
// ahead of another's end of the last one. They spin till then, so that they
// begin as near to one another as may be.
func inStep(many, rounds int, work func(which, round int)) {
	var arrived atomic.Int64
	atOnce(many, func(which int) {
		for round := range rounds {
			arrived.Add(1)
			for arrived.Load() < int64((round+1)*many) {
				runtime.Gosched()
			}
			work(which, round)
		}
	})
}

func TestExample(t *testing.T) {
	m := meter.New()
	if !m.Add(meter.Calls, 2) || m.Raise(meter.Calls, 1) {
		t.Error("not true; false")
	}
	mustAll(t, m, [meter.Kinds]int{meter.Calls: 2})
}

// 4.1: the kinds are the numbers 0 to Kinds - 1, in the chapter's order.
func TestKinds(t *testing.T) {
	kinds := []int{meter.Calls, meter.Refused, meter.Commits, meter.Sent, meter.Taken, meter.Kinds}
	for want, kind := range kinds {
		if kind != want {
			t.Errorf("kind %d is %d", want, kind)
		}
	}
}

// 4.1: at first.
func TestNew(t *testing.T) {
	m := meter.New()
	mustAll(t, m, [meter.Kinds]int{})
	if m.Stopped() {
		t.Error("stopped at first")
	}
}

// 4.1: each kind has a counter of its own.
func TestEachKindIsApart(t *testing.T) {
	m := meter.New()
	var want [meter.Kinds]int
	for kind := range want {
		if !m.Add(kind, 10+kind) {
			t.Errorf("Add(%d) is false", kind)
		}
		want[kind] = 10 + kind
		mustAll(t, m, want)
	}
	for kind := range want {
		if !m.Raise(kind, 100+kind) {
			t.Errorf("Raise(%d) is false", kind)
		}
		want[kind] = 100 + kind
		mustAll(t, m, want)
	}
}

// 4.1: n more, round the ends of the numbers with a sign; none more is an Add
// too.
func TestAdd(t *testing.T) {
	m := meter.New()
	for _, c := range []struct{ n, want int }{
		{5, 5}, {0, 5}, {-2, 3}, {-4, -1}, {1, 0},
		{math.MaxInt, math.MaxInt}, {1, math.MinInt}, {-1, math.MaxInt},
		{math.MaxInt, -2}, {math.MinInt, math.MaxInt - 1}, {math.MinInt, -2},
		{math.MinInt, math.MaxInt - 1}, {3, math.MinInt + 1}, {math.MaxInt, 0},
		{math.MinInt, math.MinInt}, {math.MinInt, 0},
	} {
		if !m.Add(meter.Taken, c.n) {
			t.Errorf("Add of %d is false", c.n)
		}
		mustAll(t, m, [meter.Kinds]int{meter.Taken: c.want})
	}
}

// 4.1: n, if it is more, and not if it is as much or less, at the ends and on
// both sides of 0.
func TestRaise(t *testing.T) {
	edges := []int{math.MinInt, math.MinInt + 1, -2, -1, 0, 1, 2, 1 << 32, math.MaxInt - 1, math.MaxInt}
	for _, is := range edges {
		for _, n := range edges {
			m := meter.New()
			m.Add(meter.Commits, is)
			if got := m.Raise(meter.Commits, n); got != (n > is) {
				t.Errorf("Raise from %d to %d: %v", is, n, got)
			}
			mustAll(t, m, [meter.Kinds]int{meter.Commits: max(is, n)})
			if m.Raise(meter.Commits, n) {
				t.Errorf("Raise from %d to %d is true twice", is, n)
			}
			mustAll(t, m, [meter.Kinds]int{meter.Commits: max(is, n)})
		}
	}
}

// 4.1, R3, R5: of no kind there is nothing, and nothing is turned.
func TestNoKind(t *testing.T) {
	m := meter.New()
	want := [meter.Kinds]int{3, -4, 5, 0, 7}
	for kind, n := range want {
		m.Add(kind, n)
	}
	for _, kind := range noKinds {
		if m.Add(kind, 1) || m.Add(kind, 0) || m.Add(kind, -1) {
			t.Errorf("Add of kind %d is true", kind)
		}
		if m.Raise(kind, math.MaxInt) || m.Raise(kind, -1) {
			t.Errorf("Raise of kind %d is true", kind)
		}
		if got := m.Value(kind); got != 0 {
			t.Errorf("Value of kind %d: %d", kind, got)
		}
		mustAll(t, m, want)
	}
}

// model is 4.1 by numbers without an end.
type model [meter.Kinds]big.Int

// add answers and does what Add must.
func (o *model) add(kind, n int) bool {
	if kind < 0 || kind >= meter.Kinds {
		return false
	}
	round := new(big.Int).Lsh(big.NewInt(1), 64)
	half := new(big.Int).Lsh(big.NewInt(1), 63)
	c := &o[kind]
	c.Add(c, big.NewInt(int64(n)))
	c.Add(c, half)
	c.Mod(c, round)
	c.Sub(c, half)
	return true
}

// raise answers and does what Raise must.
func (o *model) raise(kind, n int) bool {
	if kind < 0 || kind >= meter.Kinds || big.NewInt(int64(n)).Cmp(&o[kind]) <= 0 {
		return false
	}
	o[kind].SetInt64(int64(n))
	return true
}

// all answers what All must.
func (o *model) all() [meter.Kinds]int {
	var all [meter.Kinds]int
	for kind := range all {
		all[kind] = int(o[kind].Int64())
	}
	return all
}

// 4.1, R4: long lines of calls, small numbers and great ones mixed, hold
// against the model.
func TestAgainstModel(t *testing.T) {
	for seed := range int64(40) {
		pick := rand.New(rand.NewSource(seed))
		m, o := meter.New(), &model{}
		for step := range 500 {
			kind := pick.Intn(meter.Kinds+2) - 1
			n := pick.Intn(21) - 10
			if pick.Intn(3) == 0 {
				n = int(pick.Uint64())
			}
			got, want := false, false
			if pick.Intn(2) == 0 {
				got, want = m.Add(kind, n), o.add(kind, n)
			} else {
				got, want = m.Raise(kind, n), o.raise(kind, n)
			}
			if got != want {
				t.Fatalf("seed %d, step %d, kind %d, n %d: %v, not %v", seed, step, kind, n, got, want)
			}
			mustAll(t, m, o.all())
		}
	}
}

// 4.1: each Add counts, however many come at once, those of no kind and those
// that take away among them.
func TestEachAddCounts(t *testing.T) {
	for range 20 {
		m := meter.New()
		atOnce(16, func(which int) {
			for i := range 500 {
				m.Add(meter.Calls, 1)
				m.Add(meter.Sent, which)
				m.Add(meter.Taken, 1-i%2*2)
				m.Add(meter.Kinds, 1)
			}
		})
		mustAll(t, m, [meter.Kinds]int{meter.Calls: 8000, meter.Sent: 500 * 120})
	}
}

// 4.1: a Raise that is false turns nothing, so that no Add beside it is lost.
func TestAddBesideFalseRaises(t *testing.T) {
	for range 20 {
		m := meter.New()
		atOnce(16, func(which int) {
			for range 500 {
				if which%2 == 0 {
					m.Add(meter.Refused, 1)
				} else if m.Raise(meter.Refused, -1) || m.Raise(meter.Refused, 0) {
					t.Error("a Raise to what is no more is true")
				}
			}
		})
		mustAll(t, m, [meter.Kinds]int{meter.Refused: 4000})
	}
}

// 4.1: of Adds beside one Raise, those behind it count on top of it.
func TestAddBesideTrueRaise(t *testing.T) {
	const many, each, top = 8, 500, 1 << 40
	for range 50 {
		m := meter.New()
		var behind atomic.Int64
		var raised atomic.Bool
		atOnce(many+1, func(which int) {
			if which == many {
				if !m.Raise(meter.Commits, top) {
					t.Error("a Raise past all Adds is false")
				}
				raised.Store(true)
				return
			}
			for range each {
				if raised.Load() {
					behind.Add(1)
				}
				m.Add(meter.Commits, 1)
			}
		})
		more := m.Value(meter.Commits) - top
		if more < int(behind.Load()) || more > many*each {
			t.Errorf("%d more than what it was raised to, of %d Adds that came behind that", more, behind.Load())
		}
	}
}

// 4.1: where Raises and Adds of 1 run a race, each Raise that is true makes it
// at least 1 more, and so does each Add: it comes to no less than they are.
func TestRaiseTellsWhetherItDid(t *testing.T) {
	const each = 20000
	m := meter.New()
	var steps atomic.Int64
	atOnce(8, func(which int) {
		mine := 0
		for range each {
			if which%2 == 0 {
				m.Add(meter.Sent, 1)
				mine++
			} else if m.Raise(meter.Sent, m.Value(meter.Sent)+1) {
				mine++
			}
		}
		steps.Add(int64(mine))
	})
	if n := m.Value(meter.Sent); n < int(steps.Load()) {
		t.Errorf("%d steps up, and it is %d", steps.Load(), n)
	}
}

// 4.1: Raise leaves the greatest, whoever of them comes first: each round's
// Raises are held against each other in the round behind it.
func TestRaiseLeavesTheGreatest(t *testing.T) {
	const many = 8
	m := meter.New()
	inStep(many, 10000, func(which, round int) {
		ahead := round / 2 * many
		if round%2 == 0 {
			m.Raise(meter.Sent, ahead+1+(which+round/2)%many)
		} else if is := m.Value(meter.Sent); is != ahead+many {
			t.Errorf("raised to %d at most, and it is %d", ahead+many, is)
		}
	})
	mustAll(t, m, [meter.Kinds]int{meter.Sent: 5000 * many})
}

// 4.1: of many Raises to one number, one is true.
func TestOneRaiseIsTrue(t *testing.T) {
	const rounds = 5000
	m := meter.New()
	var raised [rounds]atomic.Int64
	inStep(8, rounds, func(_, round int) {
		if m.Raise(meter.Taken, round+1) {
			raised[round].Add(1)
		}
	})
	for round := range raised {
		if n := raised[round].Load(); n != 1 {
			t.Errorf("to %d: true %d times", round+1, n)
		}
	}
	mustAll(t, m, [meter.Kinds]int{meter.Taken: rounds})
}

// 4.1: All and Value may be asked while others count.
func TestAskedMeanwhile(t *testing.T) {
	m := meter.New()
	atOnce(8, func(which int) {
		last := [meter.Kinds]int{}
		for range 500 {
			if which%2 == 0 {
				m.Add(which/2, 1)
				continue
			}
			all := m.All()
			for kind, n := range all {
				if n < last[kind] || m.Value(kind) < n {
					t.Errorf("kind %d fell", kind)
				}
			}
			last = all
		}
	})
	mustAll(t, m, [meter.Kinds]int{500, 500, 500, 500, 0})
}

// 4.1: the first Stop does its f, and the others nothing; f finds a meter
// that is not stopped yet, and may count.
func TestStop(t *testing.T) {
	m := meter.New()
	m.Add(meter.Calls, 4)
	done := 0
	first := m.Stop(func() {
		done++
		if m.Stopped() {
			t.Error("stopped while f is not done")
		}
		m.Add(meter.Calls, 1)
	})
	if !first || done != 1 || !m.Stopped() {
		t.Errorf("the first: %v, f done %d times, stopped %v", first, done, m.Stopped())
	}
	for range 3 {
		if m.Stop(func() { done++ }) || m.Stop(nil) {
			t.Error("a later one is true")
		}
	}
	if done != 1 || !m.Stopped() {
		t.Errorf("at last: f done %d times, stopped %v", done, m.Stopped())
	}
	mustAll(t, m, [meter.Kinds]int{meter.Calls: 5})
}

// 4.1: a nil f is not done, but it stops.
func TestStopWithNil(t *testing.T) {
	m := meter.New()
	if !m.Stop(nil) || !m.Stopped() {
		t.Error("a first Stop of nil does not stop")
	}
	if m.Stop(func() { t.Error("done, though stopped") }) || m.Stop(nil) || !m.Stopped() {
		t.Error("a later one is true")
	}
}

// 4.1: a stopped meter counts as before.
func TestStoppedCounts(t *testing.T) {
	m := meter.New()
	m.Stop(nil)
	if !m.Add(meter.Calls, 3) || !m.Raise(meter.Sent, 4) || m.Raise(meter.Sent, 4) || m.Add(-1, 1) {
		t.Error("a stopped meter answers otherwise")
	}
	mustAll(t, m, [meter.Kinds]int{meter.Calls: 3, meter.Sent: 4})
}

// 4.1: counting does not stop.
func TestCountingDoesNotStop(t *testing.T) {
	m := meter.New()
	for kind := range meter.Kinds {
		m.Add(kind, 1)
		m.Raise(kind, 9)
	}
	if m.All(); m.Stopped() || m.Stopped() {
		t.Error("stopped by nobody")
	}
}

// 4.1: of many at once one is true, its f alone is done, and it is done for
// each of them.
func TestOneStopIsTrue(t *testing.T) {
	for range 300 {
		m := meter.New()
		var done, first atomic.Int64
		atOnce(16, func(which int) {
			mine := false
			was := m.Stop(func() {
				mine = true
				done.Add(1)
			})
			if was {
				first.Add(1)
			}
			if was != mine || done.Load() != 1 || !m.Stopped() {
				t.Errorf("%d: answered %v, did its own %v, done %d, stopped %v", which, was, mine, done.Load(), m.Stopped())
			}
		})
		if done.Load() != 1 || first.Load() != 1 {
			t.Fatalf("done %d times, true %d times", done.Load(), first.Load())
		}
	}
}

// 4.1: the others wait till f is done, and not for one another; the counters
// wait for nobody.
func TestOthersWait(t *testing.T) {
	const many = 16
	m := meter.New()
	begun, finished := make(chan struct{}), false
	var near, all sync.WaitGroup
	near.Add(many)
	all.Add(1 + many)
	go func() {
		defer all.Done()
		first := m.Stop(func() {
			close(begun)
			near.Wait()
			time.Sleep(20 * time.Millisecond)
			if m.Stopped() || m.Value(meter.Calls) != many {
				t.Error("stopped while f is not done, or the counters wait for it")
			}
			finished = true
		})
		if !first {
			t.Error("the first is false")
		}
	}()
	for range many {
		go func() {
			defer all.Done()
			<-begun
			m.Add(meter.Calls, 1)
			near.Done()
			if m.Stop(func() { t.Error("f of another is done") }) {
				t.Error("another is true")
			}
			if !finished || !m.Stopped() {
				t.Error("another did not wait")
			}
		}()
	}
	all.Wait()
}

// R1: what f panics with does not come out; f is done, and the meter stopped.
func TestStopOutlivesPanic(t *testing.T) {
	for name, f := range map[string]func(){
		"text":  func() { panic("no") },
		"nil":   func() { panic(nil) },
		"index": func() { _ = []int{}[len(noKinds)] },
	} {
		m := meter.New()
		if !m.Stop(f) || !m.Stopped() {
			t.Errorf("%s: the first Stop does not stop", name)
		}
		if m.Stop(func() { t.Errorf("%s: done twice", name) }) || !m.Stopped() {
			t.Errorf("%s: a later one is true", name)
		}
	}
}

// R1: nobody waits for good for an f that ends its goroutine.
func TestStopOutlivesGoexit(t *testing.T) {
	m := meter.New()
	ended := make(chan struct{})
	go func() {
		defer close(ended)
		m.Stop(runtime.Goexit)
	}()
	<-ended
	if !m.Stopped() || m.Stop(func() { t.Error("done twice") }) {
		t.Error("not stopped")
	}
}

// R7: meters know nothing of one another, not even within f.
func TestObjectsAreApart(t *testing.T) {
	one, two := meter.New(), meter.New()
	one.Add(meter.Calls, 2)
	two.Raise(meter.Sent, 3)
	if !one.Stop(func() { one.Add(meter.Refused, 1) }) || two.Stopped() || meter.New().Stopped() {
		t.Error("another one is stopped")
	}
	three := meter.New()
	if !two.Stop(func() { three.Stop(nil) }) || !three.Stopped() || !two.Stopped() {
		t.Error("one within the other does not stop")
	}
	mustAll(t, one, [meter.Kinds]int{meter.Calls: 2, meter.Refused: 1})
	mustAll(t, two, [meter.Kinds]int{meter.Sent: 3})
	mustAll(t, three, [meter.Kinds]int{})
}

// R2: an answer is the caller's own.
func TestAnswersAreApart(t *testing.T) {
	m := meter.New()
	m.Add(meter.Calls, 1)
	all := m.All()
	all[meter.Calls], all[meter.Taken] = 8, 9
	mustAll(t, m, [meter.Kinds]int{meter.Calls: 1})
}

// R1: none panics, on a nil object neither.
func TestNilObjectsDoNotPanic(t *testing.T) {
	var m *meter.Meter
	if m.Add(meter.Calls, 1) || m.Raise(meter.Calls, 1) || m.Stop(func() { t.Error("done by nobody") }) || m.Stopped() {
		t.Error("a nil Meter does something")
	}
	mustAll(t, m, [meter.Kinds]int{})
}
