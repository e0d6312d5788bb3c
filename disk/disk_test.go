package disk_test

import (
	"bytes"
	"fmt"
	"maps"
	"math"
	"math/big"
	"math/rand"
	"slices"
	"testing"

	"cutover/api"
	"cutover/disk"
)

// job is one of a disk's works: 'a' an Append, 'r' a Remove, 's' a Sync.
type job struct {
	kind byte
	file int
	b    string
}

// add and rem are short for jobs, and so is syn.
func add(file int, b string) job { return job{'a', file, b} }
func rem(file int) job           { return job{'r', file, ""} }

var syn = job{kind: 's'}

// String tells a job.
func (j job) String() string { return fmt.Sprintf("%c(%d, %q)", j.kind, j.file, j.b) }

// do has d do j.
func (j job) do(d *disk.Disk) api.Errno {
	switch j.kind {
	case 'a':
		return d.Append(j.file, []byte(j.b))
	case 'r':
		return d.Remove(j.file)
	}
	return d.Sync()
}

// model is the chapter by its words: what is done for good, and what pends,
// gone through from the first one on whenever it is asked.
type model struct {
	safe  map[int]string
	pends []job
	fuse  int
	dead  bool
	works int
}

// newModel answers a model of a new disk.
func newModel() *model { return &model{safe: map[int]string{}, fuse: -1} }

// lay does j, an Append or a Remove, to files.
func lay(files map[int]string, j job) {
	if files[j.file] += j.b; j.kind == 'r' || files[j.file] == "" {
		delete(files, j.file)
	}
}

// seen answers the files with what pends.
func (m *model) seen() map[int]string {
	files := maps.Clone(m.safe)
	for _, j := range m.pends {
		lay(files, j)
	}
	return files
}

// do is Append, Remove and Sync by 5.1 and 5.3.
func (m *model) do(j job) api.Errno {
	if j.kind != 's' && j.file < 0 {
		return api.ErrArg
	}
	if m.dead || m.fuse == 0 {
		m.dead = true
		return api.ErrDown
	}
	if m.fuse > 0 {
		m.fuse--
	}
	m.works++
	switch {
	case j.kind == 's':
		m.safe, m.pends = m.seen(), nil
	case j.kind == 'a' && j.b != "", j.kind == 'r' && m.seen()[j.file] != "":
		m.pends = append(m.pends, j)
	}
	return api.OK
}

// modulo answers n modulo one more than there are, from 0 on.
func modulo(n, there int) int {
	return int(new(big.Int).Mod(big.NewInt(int64(n)), big.NewInt(int64(there)+1)).Int64())
}

// crash is Crash by 5.2.
func (m *model) crash(done, cut int) {
	done = modulo(done, len(m.pends))
	for _, j := range m.pends[:done] {
		lay(m.safe, j)
	}
	if done < len(m.pends) && m.pends[done].kind == 'a' {
		j := m.pends[done]
		j.b = j.b[:modulo(cut, len(j.b))]
		lay(m.safe, j)
	}
	m.pends, m.dead, m.fuse = nil, false, -1
}

// tell tells all that the model can be asked.
func (m *model) tell() string {
	s := fmt.Sprintf("%d pend, %d works, dead %v:", len(m.pends), m.works, m.dead)
	if m.dead {
		return s
	}
	files := m.seen()
	for _, file := range slices.Sorted(maps.Keys(files)) {
		s += fmt.Sprintf(" %d %q", file, files[file])
	}
	return s
}

// tell tells the same of a disk, and of small files whose bytes it reads
// though it does not name them.
func tell(d *disk.Disk) string {
	s := fmt.Sprintf("%d pend, %d works, dead %v:", d.Pending(), d.Works(), d.Dead())
	files := d.Files()
	for _, file := range files {
		s += fmt.Sprintf(" %d %q", file, d.Read(file))
	}
	for file := -2; file < 12; file++ {
		if b := d.Read(file); len(b) > 0 && !slices.Contains(files, file) {
			s += fmt.Sprintf(" and unnamed %d %q", file, b)
		}
	}
	return s
}

// pair is a disk and its model, told the same.
type pair struct {
	d *disk.Disk
	m *model
}

// newPair answers a pair that was told jobs, all of which must be OK.
func newPair(t *testing.T, jobs ...job) pair {
	t.Helper()
	p := pair{disk.New(), newModel()}
	for _, j := range jobs {
		p.do(t, j, api.OK)
	}
	return p
}

// do holds j's answer to want, and what it leaves to the model.
func (p pair) do(t *testing.T, j job, want api.Errno) {
	t.Helper()
	if e := p.m.do(j); e != want {
		t.Fatalf("%v: the test is wrong: error %d, and by the model %d", j, want, e)
	}
	if e := j.do(p.d); e != want {
		t.Errorf("%v: error %d, not %d", j, e, want)
	}
	p.same(t, j.String())
}

// fuse sets both fuses.
func (p pair) fuse(t *testing.T, n int) {
	t.Helper()
	p.d.Fuse(n)
	p.m.fuse = n
	p.same(t, fmt.Sprintf("Fuse(%d)", n))
}

// crash has both crash.
func (p pair) crash(t *testing.T, done, cut int) {
	t.Helper()
	p.d.Crash(done, cut)
	p.m.crash(done, cut)
	p.same(t, fmt.Sprintf("Crash(%d, %d)", done, cut))
}

// same holds the disk to the model.
func (p pair) same(t *testing.T, name string) {
	t.Helper()
	if got, want := tell(p.d), p.m.tell(); got != want {
		t.Fatalf("behind %s: %s; not %s", name, got, want)
	}
}

// is holds the disk to what a test tells, so that not all hangs on the model.
func (p pair) is(t *testing.T, want string) {
	t.Helper()
	if got := tell(p.d); got != want {
		t.Errorf("%s; not %s", got, want)
	}
}

func TestExample(t *testing.T) {
	d := disk.New()
	if e := d.Append(0, []byte("abc")); e != api.OK {
		t.Errorf("Append: error %d", e)
	}
	d.Crash(0, 2)
	if got := string(d.Read(0)); got != "ab" {
		t.Errorf("%q, not ab", got)
	}
}

// 5.1: at first there is nothing, and nothing pends.
func TestNew(t *testing.T) {
	newPair(t).is(t, "0 pend, 0 works, dead false:")
}

// 5.1: b stands behind the file's bytes, those that pend and those that do
// not, and behind no other file's.
func TestAppend(t *testing.T) {
	p := newPair(t, add(3, "abc"), add(0, "x"), add(3, "de"))
	p.is(t, `3 pend, 3 works, dead false: 0 "x" 3 "abcde"`)
	p.do(t, syn, api.OK)
	p.do(t, add(3, "\x00\xff"), api.OK)
	p.is(t, `1 pend, 5 works, dead false: 0 "x" 3 "abcde\x00\xff"`)
}

// 5.1: a file that is Removed has no bytes, and is not there; what comes then
// stands in it alone.
func TestRemove(t *testing.T) {
	p := newPair(t, add(1, "safe"), add(2, "other"), syn, rem(1))
	p.is(t, `1 pend, 4 works, dead false: 2 "other"`)
	p.do(t, add(1, "new"), api.OK)
	p.do(t, rem(2), api.OK)
	p.is(t, `3 pend, 6 works, dead false: 1 "new"`)
	p.do(t, rem(1), api.OK)
	p.is(t, `4 pend, 7 works, dead false:`)
	p.do(t, syn, api.OK)
	p.do(t, add(1, "more"), api.OK)
	p.is(t, `1 pend, 9 works, dead false: 1 "more"`)
}

// 5.1: no bytes, and the Remove of what is not there, are works that do not
// pend. Whether a file is there is told with what pends.
func TestWorksThatDoNotPend(t *testing.T) {
	p := newPair(t, add(0, ""), rem(0), add(4, "x"), syn)
	for i, c := range []struct {
		j     job
		pends int
	}{
		{add(4, ""), 0}, {add(5, ""), 0}, {rem(5), 0}, {rem(9), 0},
		{rem(4), 1}, {rem(4), 1}, {add(4, ""), 1}, {rem(4), 1},
		{add(4, "y"), 2}, {rem(4), 3}, {rem(4), 3}, {syn, 0}, {rem(4), 0},
	} {
		p.do(t, c.j, api.OK)
		if p.d.Pending() != c.pends || p.d.Works() != 5+i {
			t.Errorf("behind %v: %s; not %d pend and %d works", c.j, tell(p.d), c.pends, 5+i)
		}
	}
	d := disk.New()
	if d.Append(1, nil) != api.OK || d.Append(1, []byte{}) != api.OK || tell(d) != "0 pend, 2 works, dead false:" {
		t.Errorf("of nil and of an empty list: %s", tell(d))
	}
}

// 5.1, R5: numbers of files go from 0 as far as an int; below 0 there is none,
// and to write there is ErrArg, which is no work.
func TestNumbersOfFiles(t *testing.T) {
	great := []int{0, 1, math.MaxInt32, math.MaxInt32 + 1, 1 << 32, math.MaxInt - 1, math.MaxInt}
	p := newPair(t)
	for _, at := range []int{3, 6, 0, 4, 2, 5, 1} {
		p.do(t, add(great[at], fmt.Sprint(at)), api.OK)
	}
	if got := p.d.Files(); !slices.Equal(got, great) {
		t.Errorf("Files: %v, not %v", got, great)
	}
	for at, file := range great {
		if got := string(p.d.Read(file)); got != fmt.Sprint(at) {
			t.Errorf("Read(%d): %q", file, got)
		}
	}
	for _, file := range []int{-1, -2, math.MinInt32, -1 << 32, math.MinInt + 1, math.MinInt} {
		p.do(t, add(file, "x"), api.ErrArg)
		p.do(t, add(file, ""), api.ErrArg)
		p.do(t, rem(file), api.ErrArg)
		if b := p.d.Read(file); len(b) != 0 {
			t.Errorf("Read(%d): %q", file, b)
		}
	}
}

// 5.1: Files rises, in whatever order they came and went.
func TestFilesRise(t *testing.T) {
	pick := rand.New(rand.NewSource(5))
	d := disk.New()
	var there [200]int
	for range 3000 {
		file := pick.Intn(len(there))
		if pick.Intn(3) == 0 {
			d.Remove(file)
			there[file] = 0
		} else {
			d.Append(file, []byte{byte(file)})
			there[file]++
		}
		var want []int
		for file, n := range there {
			if n > 0 {
				want = append(want, file)
			}
		}
		if got := d.Files(); !slices.Equal(got, want) {
			t.Fatalf("%v, not %v", got, want)
		}
	}
	for file, n := range there {
		if got := d.Read(file); !bytes.Equal(got, bytes.Repeat([]byte{byte(file)}, n)) {
			t.Errorf("Read(%d): % x, not %d of them", file, got, n)
		}
	}
}

// 5.1, 5.2: behind a Sync nothing pends, and no Crash takes of it.
func TestSync(t *testing.T) {
	p := newPair(t, add(1, "abc"), add(2, "de"), rem(1), add(2, "f"), syn)
	p.is(t, `0 pend, 5 works, dead false: 2 "def"`)
	for n := -4; n < 4; n++ {
		p.crash(t, n, n)
		p.crash(t, 0, n)
		p.is(t, `0 pend, 5 works, dead false: 2 "def"`)
	}
	p.do(t, syn, api.OK)
	p.do(t, syn, api.OK)
	p.is(t, `0 pend, 7 works, dead false: 2 "def"`)
}

// 5.2: the first done are done, of the next one its first cut bytes, and no
// others; both go round, also below 0.
func TestCrash(t *testing.T) {
	for _, c := range []struct {
		done, cut int
		want      string
	}{
		{0, 0, `1 "old" 2 "gone"`},
		{0, 1, `1 "olda" 2 "gone"`},
		{0, 3, `1 "oldabc" 2 "gone"`},
		{0, 4, `1 "old" 2 "gone"`},
		{0, 6, `1 "oldab" 2 "gone"`},
		{0, -1, `1 "oldabc" 2 "gone"`},
		{0, -4, `1 "old" 2 "gone"`},
		{0, -5, `1 "oldabc" 2 "gone"`},
		{0, math.MaxInt, `1 "oldabc" 2 "gone"`},
		{0, math.MaxInt - 1, `1 "oldab" 2 "gone"`},
		{0, math.MinInt, `1 "old" 2 "gone"`},
		{0, math.MinInt + 1, `1 "olda" 2 "gone"`},
		{1, 0, `1 "oldabc" 2 "gone"`},
		{1, 1, `1 "oldabc" 2 "gone"`},
		{1, 7, `1 "oldabc" 2 "gone"`},
		{2, 0, `1 "oldabc"`},
		{2, 1, `1 "oldabcx"`},
		{2, 2, `1 "oldabcxy"`},
		{2, 3, `1 "oldabc"`},
		{2, -1, `1 "oldabcxy"`},
		{2, -2, `1 "oldabcx"`},
		{2, math.MinInt, `1 "oldabcx"`},
		{3, 0, `1 "oldabcxy"`},
		{3, 1, `0 "z" 1 "oldabcxy"`},
		{3, 2, `1 "oldabcxy"`},
		{4, 0, `0 "z" 1 "oldabcxy"`},
		{4, 9, `0 "z" 1 "oldabcxy"`},
		{5, 0, `1 "old" 2 "gone"`},
		{5, 2, `1 "oldab" 2 "gone"`},
		{8, 0, `1 "oldabcxy"`},
		{-1, 0, `0 "z" 1 "oldabcxy"`},
		{-2, -1, `0 "z" 1 "oldabcxy"`},
		{-5, 1, `1 "olda" 2 "gone"`},
		{-6, 0, `0 "z" 1 "oldabcxy"`},
		{math.MaxInt, 1, `1 "oldabcx"`},
		{math.MinInt, 1, `1 "oldabcx"`},
		{math.MinInt + 2, 1, `0 "z" 1 "oldabcxy"`},
	} {
		p := newPair(t, add(1, "old"), add(2, "gone"), syn, add(1, "abc"), rem(2), add(1, "xy"), add(0, "z"))
		p.is(t, `4 pend, 7 works, dead false: 0 "z" 1 "oldabcxy"`)
		p.crash(t, c.done, c.cut)
		p.is(t, `0 pend, 7 works, dead false: `+c.want)
	}
}

// 5.2: of nothing that pends nothing is done, whatever is asked.
func TestCrashOfNothing(t *testing.T) {
	p := newPair(t)
	for _, n := range []int{0, 1, -1, 5, math.MaxInt, math.MinInt} {
		p.crash(t, n, n)
	}
	p.is(t, "0 pend, 0 works, dead false:")
}

// 5.2: done counts what pends alone, not the works that do not, and not those
// that were stopped or refused.
func TestCrashCountsWhatPends(t *testing.T) {
	p := newPair(t, add(1, ""), add(1, "a"), rem(2), add(1, ""), add(1, "b"), rem(1), rem(1), add(1, "c"))
	p.do(t, add(-1, "x"), api.ErrArg)
	p.fuse(t, 0)
	p.do(t, add(1, "stopped"), api.ErrDown)
	p.do(t, rem(1), api.ErrDown)
	p.do(t, syn, api.ErrDown)
	p.crash(t, 4, 0)
	p.is(t, `0 pend, 8 works, dead false: 1 "c"`)
}

// 5.2: of one file's Appends and Removes, wherever it falls and however they
// come behind one another, all is as the model has it, and so is what is
// written behind the fall.
func TestCrashAnywhere(t *testing.T) {
	for _, pends := range [][]job{
		{rem(1)},
		{rem(1), add(1, "new")},
		{rem(1), add(1, "new"), rem(1)},
		{rem(1), add(1, "new"), rem(1), add(1, "newer and longer")},
		{add(1, "ab"), rem(1), add(1, "c"), add(1, "d"), rem(1), add(1, "e")},
		{add(2, "ab"), rem(2), add(2, "cd"), rem(2)},
		{add(2, "ab"), add(1, "cd"), add(2, "ef"), add(1, "gh"), rem(2), add(1, "ij"), add(2, "kl")},
		{add(9, "a"), add(8, "b"), add(7, "c"), rem(8), add(3, "d"), rem(9), add(8, "e")},
	} {
		for done := range len(pends) + 1 {
			for cut := range 17 {
				p := newPair(t, add(1, "safe"), syn)
				for _, j := range pends {
					p.do(t, j, api.OK)
				}
				p.crash(t, done, cut)
				for _, j := range []job{add(1, "1"), add(2, "22"), rem(8), add(8, "888"), syn, add(1, "-")} {
					p.do(t, j, api.OK)
				}
				p.crash(t, 0, 0)
			}
		}
	}
}

// 5.2: cut goes by the bytes that one Append has, though there are many, and
// though the file had many ahead of it.
func TestCrashCutsLongAppends(t *testing.T) {
	long := make([]byte, 70000)
	for i := range long {
		long[i] = byte(i*7 + i>>8)
	}
	for _, c := range []struct{ cut, want int }{
		{0, 0}, {1, 1}, {255, 255}, {256, 256}, {65536, 65536}, {69999, 69999},
		{70000, 70000}, {70001, 0}, {70002, 1}, {-1, 70000}, {-70001, 0},
		{70001 * 70001, 0}, {70001*70001 - 1, 70000},
	} {
		d := disk.New()
		d.Append(0, long)
		d.Sync()
		d.Append(0, long)
		d.Append(0, long)
		d.Crash(0, c.cut)
		want := append(bytes.Clone(long), long[:c.want]...)
		if got := d.Read(0); !bytes.Equal(got, want) {
			t.Errorf("cut %d: %d bytes, not %d, or others", c.cut, len(got), len(want))
		}
	}
}

// 5.3: n works of any kind go well, also those that do not pend; the next
// one, of any kind, does not, and is not done.
func TestFuse(t *testing.T) {
	goes := []job{add(0, "b"), syn, add(5, ""), rem(7), rem(0), syn, add(1, "c")}
	stops := []job{add(0, "x"), add(0, ""), add(5, "x"), rem(1), rem(7), rem(0), syn}
	for n := range len(goes) + 1 {
		for _, stop := range stops {
			p := newPair(t, add(0, "a"), add(1, "A"))
			p.fuse(t, n)
			for _, j := range goes[:n] {
				p.do(t, j, api.OK)
			}
			pends := p.d.Pending()
			p.do(t, stop, api.ErrDown)
			if !p.d.Dead() || p.d.Pending() != pends || p.d.Works() != 2+n {
				t.Errorf("Fuse(%d), stopped at %v: %s", n, stop, tell(p.d))
			}
			p.crash(t, -1, 0)
		}
	}
}

// 5.3: a fuse is set from its call on, and what was ahead of it does not
// count.
func TestFuseCountsFromItsCall(t *testing.T) {
	p := newPair(t, add(0, "a"), syn, syn, syn)
	p.fuse(t, 3)
	p.do(t, syn, api.OK)
	p.fuse(t, 2)
	p.do(t, syn, api.OK)
	p.do(t, syn, api.OK)
	p.fuse(t, 1)
	p.do(t, add(0, "b"), api.OK)
	p.do(t, add(0, "c"), api.ErrDown)
	p.is(t, "1 pend, 8 works, dead true:")
}

// 5.3: below 0 it is off, as at first.
func TestFuseOff(t *testing.T) {
	for _, off := range []int{-1, -2, -7, math.MinInt32, math.MinInt} {
		for set := range 3 {
			p := newPair(t)
			p.fuse(t, set)
			p.fuse(t, off)
			for range 10 {
				p.do(t, add(0, "x"), api.OK)
				p.do(t, syn, api.OK)
				p.do(t, rem(0), api.OK)
			}
		}
	}
}

// 5.3: a fuse may be as great as an int.
func TestGreatFuse(t *testing.T) {
	for _, n := range []int{math.MaxInt32 + 1, 1 << 32, math.MaxInt} {
		p := newPair(t)
		p.fuse(t, n)
		for range 20 {
			p.do(t, add(0, "x"), api.OK)
		}
	}
}

// 5.3: all works of a dead disk are ErrDown, none is done, and it reads as
// none; what pends goes on pending.
func TestDead(t *testing.T) {
	p := newPair(t, add(0, "safe"), add(1, "gone"), syn, rem(1), add(0, "r"))
	p.fuse(t, 0)
	p.is(t, `2 pend, 5 works, dead false: 0 "safer"`)
	for range 3 {
		for _, j := range []job{syn, add(0, "x"), add(0, ""), add(3, "x"), rem(0), rem(1), rem(3), syn} {
			p.do(t, j, api.ErrDown)
			p.is(t, "2 pend, 5 works, dead true:")
		}
	}
	p.crash(t, 2, 0)
	p.is(t, `0 pend, 5 works, dead false: 0 "safer"`)
	for range 5 {
		p.do(t, add(0, "!"), api.OK)
		p.do(t, syn, api.OK)
	}
}

// 5.3: no Fuse makes a dead disk go; a Crash does, and it turns off the fuse
// that was set, of a dead disk and of one that is not.
func TestFuseOfDead(t *testing.T) {
	for _, n := range []int{-1, 0, 1, 5, math.MaxInt, math.MinInt} {
		p := newPair(t, add(0, "a"), syn)
		p.fuse(t, 0)
		p.do(t, syn, api.ErrDown)
		p.fuse(t, n)
		p.do(t, add(0, "b"), api.ErrDown)
		p.do(t, syn, api.ErrDown)
		p.is(t, "0 pend, 2 works, dead true:")
		for range 2 {
			p.crash(t, 0, 0)
			for range 7 {
				p.do(t, add(0, "c"), api.OK)
			}
			p.fuse(t, n)
		}
	}
}

// 5.1, 5.3: a file below 0 is ErrArg ahead of all else: on a dead disk, too,
// and it is no work that a fuse could stop or count.
func TestErrArgIsAheadOfErrDown(t *testing.T) {
	p := newPair(t, add(0, "a"))
	p.fuse(t, 1)
	for range 3 {
		p.do(t, add(-1, "x"), api.ErrArg)
		p.do(t, rem(-1), api.ErrArg)
	}
	p.do(t, add(0, "b"), api.OK)
	for range 3 {
		p.do(t, add(-1, "x"), api.ErrArg)
		p.do(t, rem(-1), api.ErrArg)
	}
	p.is(t, `2 pend, 2 works, dead false: 0 "ab"`)
	p.do(t, syn, api.ErrDown)
	p.do(t, add(-1, ""), api.ErrArg)
	p.do(t, add(math.MinInt, "x"), api.ErrArg)
	p.do(t, rem(-1), api.ErrArg)
	p.is(t, "2 pend, 2 works, dead true:")
}

// 5.3: Works counts since New, through all Crashes.
func TestWorksSinceNew(t *testing.T) {
	p := newPair(t)
	for i := range 20 {
		p.do(t, add(i, "x"), api.OK)
		p.do(t, rem(i/2), api.OK)
		p.do(t, syn, api.OK)
		p.fuse(t, 0)
		p.do(t, syn, api.ErrDown)
		p.crash(t, i, i)
		if got := p.d.Works(); got != 3*i+3 {
			t.Fatalf("%d, not %d", got, 3*i+3)
		}
	}
}

// step has both of p do something that pick picks.
func (p pair) step(t *testing.T, pick *rand.Rand) {
	j := job{"aaaarrss"[pick.Intn(8)], pick.Intn(6) - pick.Intn(2), ""}
	switch {
	case pick.Intn(12) == 0:
		p.crash(t, pick.Intn(41)-20, pick.Intn(41)-20)
		return
	case pick.Intn(12) == 0:
		p.fuse(t, pick.Intn(12)-2)
		return
	case j.kind == 'a':
		j.b = "abcdefghij"[:pick.Intn(11)]
	case j.kind == 's':
		j.file = 0
	}
	if got, want := j.do(p.d), p.m.do(j); got != want {
		t.Fatalf("%v: error %d, not %d", j, got, want)
	}
	p.same(t, j.String())
}

// 5.1, 5.2, 5.3, R3, R4: long lines of calls of all kinds hold against the
// model, with all that can be asked behind each.
func TestAgainstModel(t *testing.T) {
	for seed := range int64(300) {
		pick := rand.New(rand.NewSource(seed))
		p := newPair(t)
		for range 200 {
			p.step(t, pick)
		}
	}
}

// scribble writes over all of a list's memory, spare room included.
func scribble[T any](list []T, with T) {
	list = list[:cap(list)]
	for i := range list {
		list[i] = with
	}
}

// R2: Append changes nothing of what it is handed, spare room included, and
// keeps none of it: of a new file, behind others, and behind a Crash.
func TestAppendLeavesArgumentsAlone(t *testing.T) {
	p := newPair(t)
	for round := range 6 {
		whole := []byte("abc\xee\xee\xee\xee")
		p.d.Append(0, whole[:3])
		p.m.do(add(0, "abc"))
		p.do(t, add(0, "defg"), api.OK)
		if string(whole) != "abc\xee\xee\xee\xee" {
			t.Errorf("what was handed in is %q", whole)
		}
		scribble(whole, 'X')
		p.same(t, "scribbling")
		p.crash(t, round%3, round)
		if string(whole) != "XXXXXXX" {
			t.Errorf("what was handed in is %q", whole)
		}
	}
}

// R2: what Read and Files answer is new memory each time, so that neither who
// writes over it turns the disk, nor the disk, which goes on, turns it.
func TestAnswersAreNew(t *testing.T) {
	p := newPair(t, add(1, "abc"), add(4, "x"), syn, add(1, "de"), add(2, "y"))
	for range 3 {
		b, files := p.d.Read(1), p.d.Files()
		again, names := p.d.Read(1), p.d.Files()
		scribble(b, 'X')
		scribble(files, 9)
		p.same(t, "scribbling")
		if string(again) != "abcde" || !slices.Equal(names, []int{1, 2, 4}) {
			t.Errorf("what was answered is %q, %v", again, names)
		}
	}
	b, files := p.d.Read(1), p.d.Files()
	p.do(t, add(1, "f"), api.OK)
	p.do(t, rem(4), api.OK)
	p.do(t, add(0, "z"), api.OK)
	p.crash(t, 1, 0)
	p.do(t, add(1, "other"), api.OK)
	p.do(t, add(3, "z"), api.OK)
	if string(b) != "abcde" || !slices.Equal(files, []int{1, 2, 4}) {
		t.Errorf("what was answered is %q, %v", b, files)
	}
}

// 5.1, 5.2: to ask turns nothing: what is asked between makes no difference.
func TestAskingTurnsNothing(t *testing.T) {
	jobs := []job{add(1, "a"), syn, add(1, "b"), rem(1), add(2, "c"), add(1, "d"), rem(2)}
	asked, quiet := disk.New(), disk.New()
	for _, j := range jobs {
		j.do(asked)
		j.do(quiet)
		for range 3 {
			tell(asked)
		}
	}
	asked.Crash(3, 1)
	quiet.Crash(3, 1)
	if tell(asked) != tell(quiet) {
		t.Errorf("%s; not asked: %s", tell(asked), tell(quiet))
	}
}

// R7: disks know nothing of one another.
func TestDisksAreApart(t *testing.T) {
	one, two := newPair(t, add(0, "one"), syn), newPair(t, add(0, "two"))
	one.fuse(t, 0)
	one.do(t, add(0, "x"), api.ErrDown)
	two.do(t, add(0, "x"), api.OK)
	two.is(t, `2 pend, 2 works, dead false: 0 "twox"`)
	two.crash(t, 0, 0)
	one.is(t, "0 pend, 2 works, dead true:")
	one.crash(t, 0, 0)
	one.is(t, `0 pend, 2 works, dead false: 0 "one"`)
	two.is(t, "0 pend, 2 works, dead false:")
}

// R1: none panics, on a nil object neither.
func TestNilObjectsDoNotPanic(t *testing.T) {
	var d *disk.Disk
	for _, j := range []job{add(0, "x"), add(0, ""), add(-1, "x"), rem(0), rem(-1), syn} {
		if e := j.do(d); e != api.ErrArg {
			t.Errorf("%v: error %d", j, e)
		}
	}
	d.Crash(1, 1)
	d.Fuse(3)
	if got := tell(d); got != "0 pend, 0 works, dead false:" {
		t.Errorf("a nil Disk: %s", got)
	}
}
