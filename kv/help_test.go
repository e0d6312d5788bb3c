package kv_test

import (
	"encoding/binary"
	"fmt"
	"hash/crc32"
	"maps"
	"slices"
	"strings"
	"testing"

	"cutover/api"
	"cutover/disk"
	"cutover/kv"
)

// has is a change that makes a pair, gone one that takes it.
func has(key, value string) api.Change {
	return api.Change{Key: key, Has: true, Value: []byte(value)}
}

func gone(key string) api.Change { return api.Change{Key: key} }

// of answers a text of n bytes.
func of(n int) string { return strings.Repeat("x", n) }

// changes answers those that words tell: a=1 makes a pair, -a takes it.
func changes(words string) []api.Change {
	var l []api.Change
	for _, word := range strings.Fields(words) {
		if key, goes := strings.CutPrefix(word, "-"); goes {
			l = append(l, gone(key))
			continue
		}
		key, value, _ := strings.Cut(word, "=")
		l = append(l, has(key, value))
	}
	return l
}

// record is a change as bytes, by 7.1, without the help of package octet.
func record(c api.Change) string {
	if !c.Has {
		return "\x00" + short(c.Key)
	}
	return "\x01" + short(c.Key) + short(string(c.Value))
}

func short(s string) string {
	return string(binary.BigEndian.AppendUint16(nil, uint16(len(s)))) + s
}

// records answers all that words tell, as bytes.
func records(words string) []string {
	var l []string
	for _, c := range changes(words) {
		l = append(l, record(c))
	}
	return l
}

// commit and checkpoint are the bytes of one in a file, by 6.1, without the
// help of package wal.
func commit(records ...string) string     { return marked(1, 2, records) }
func checkpoint(records ...string) string { return marked(3, 4, records) }

func marked(kind, mark byte, records []string) string {
	all := ""
	for _, r := range records {
		all += framed(kind, r)
	}
	return all + framed(mark, "")
}

func framed(kind byte, body string) string {
	front := append([]byte{kind}, binary.BigEndian.AppendUint32(nil, uint32(len(body)))...)
	sum := crc32.ChecksumIEEE(append(slices.Clone(front), body...))
	return string(binary.BigEndian.AppendUint32(front, sum)) + body
}

// model is what a store has, by 7.2.
type model map[string]string

// turned answers what m is behind changes.
func (m model) turned(l []api.Change) model {
	next := model{}
	maps.Copy(next, m)
	for _, c := range l {
		if delete(next, c.Key); c.Has {
			next[c.Key] = string(c.Value)
		}
	}
	return next
}

// tell tells all pairs, so that no two models are told alike.
func (m model) tell() string {
	var pairs []string
	for _, key := range slices.Sorted(maps.Keys(m)) {
		pairs = append(pairs, fmt.Sprintf("%q=%q", key, m[key]))
	}
	return strings.Join(pairs, " ")
}

// tell tells all pairs of a store, as a model does.
func tell(s *kv.Store) string {
	var pairs []string
	for _, key := range s.Keys("") {
		value, _ := s.Get(key)
		pairs = append(pairs, fmt.Sprintf("%q=%q", key, value))
	}
	return strings.Join(pairs, " ")
}

// tellDisk tells all that a disk can be asked.
func tellDisk(d *disk.Disk) string {
	s := fmt.Sprintf("%d pend, %d works, dead %v:", d.Pending(), d.Works(), d.Dead())
	for _, file := range d.Files() {
		s += fmt.Sprintf(" %d %q", file, d.Read(file))
	}
	return s
}

// written answers a disk on which bytes are safe, at the places of files.
func written(files map[int]string) *disk.Disk {
	d := disk.New()
	for file, b := range files {
		d.Append(file, []byte(b))
	}
	d.Sync()
	return d
}

// open opens d, which must go well, and holds the store to what words make.
func open(t *testing.T, d *disk.Disk, words string) *kv.Store {
	t.Helper()
	s, e := kv.Open(d, api.MinSegment)
	if e != api.OK || s == nil {
		t.Fatalf("Open: error %d, a store %v", e, s != nil)
	}
	holds(t, s, words)
	return s
}

// refused holds an Open to an error, beside which there is no store, and
// which turns nothing.
func refused(t *testing.T, name string, d *disk.Disk, segment int, want api.Errno) {
	t.Helper()
	ahead := tellDisk(d)
	if s, e := kv.Open(d, segment); e != want || s != nil {
		t.Errorf("%s: Open: a store %v, error %d; not error %d alone", name, s != nil, e, want)
	}
	if now := tellDisk(d); now != ahead {
		t.Errorf("%s: an Open that was refused left %s; not %s", name, now, ahead)
	}
}

// holds holds a store that is not dead to what words make.
func holds(t *testing.T, s *kv.Store, words string) {
	t.Helper()
	same(t, s, model{}.turned(changes(words)))
}

// same holds all that a store can be asked to a model.
func same(t *testing.T, s *kv.Store, m model) {
	t.Helper()
	if s.Dead() || tell(s) != m.tell() || s.Count() != len(m) {
		t.Fatalf("dead %v, %d pairs: %s; not %d: %s", s.Dead(), s.Count(), tell(s), len(m), m.tell())
	}
	for key, want := range m {
		if value, there := s.Get(key); !there || string(value) != want {
			t.Fatalf("Get(%q): %q, %v; not %q", key, value, there, want)
		}
	}
}

// isDead holds a store to all that 7.2 says of a dead one.
func isDead(t *testing.T, s *kv.Store, keys ...string) {
	t.Helper()
	if !s.Dead() || s.Count() != 0 || len(s.Keys("")) > 0 {
		t.Fatalf("dead %v, %d pairs: %s", s.Dead(), s.Count(), tell(s))
	}
	for _, key := range keys {
		if value, there := s.Get(key); there || len(value) > 0 {
			t.Fatalf("Get(%q) of a dead store: %q, %v", key, value, there)
		}
	}
	is(t, "Commit", s.Commit(changes("z=9")), api.ErrDown)
	is(t, "Commit of none", s.Commit(nil), api.ErrDown)
	is(t, "Commit of no change", s.Commit([]api.Change{{}}), api.ErrDown)
	is(t, "Checkpoint", s.Checkpoint(), api.ErrDown)
}

// is holds an answer to want.
func is(t *testing.T, name string, e, want api.Errno) {
	t.Helper()
	if e != want {
		t.Fatalf("%s: error %d, not %d", name, e, want)
	}
}

// scribble turns all of a list, its spare room, too.
func scribble[T any](l []T, with T) {
	l = l[:cap(l)]
	for i := range l {
		l[i] = with
	}
}
