package wal_test

import (
	"encoding/binary"
	"fmt"
	"hash/crc32"
	"strings"
	"testing"

	"cutover/api"
	"cutover/disk"
	"cutover/wal"
)

// laid is a frame by chapter 3, without the help of package frame.
func laid(kind byte, body string) string {
	front := append([]byte{kind}, binary.BigEndian.AppendUint32(nil, uint32(len(body)))...)
	sum := crc32.ChecksumIEEE(append(append([]byte(nil), front...), body...))
	return string(binary.BigEndian.AppendUint32(front, sum)) + body
}

// commit and checkpoint are the bytes of one, by 6.1.
func commit(records ...string) string     { return marked(1, 2, records) }
func checkpoint(records ...string) string { return marked(3, 4, records) }

func marked(kind, mark byte, records []string) string {
	all := ""
	for _, r := range records {
		all += laid(kind, r)
	}
	return all + laid(mark, "")
}

// list answers texts as records.
func list(texts ...string) [][]byte {
	var records [][]byte
	for _, s := range texts {
		records = append(records, []byte(s))
	}
	return records
}

// tell tells records, or texts, so that no two lists are told alike.
func tell[T string | []byte](l []T) string { return fmt.Sprintf("%q", l) }

// tellDisk tells all that a disk can be asked.
func tellDisk(d *disk.Disk) string {
	s := fmt.Sprintf("%d pend, %d works, dead %v:", d.Pending(), d.Works(), d.Dead())
	for _, file := range d.Files() {
		s += fmt.Sprintf(" %d %q", file, d.Read(file))
	}
	return s
}

// written answers a disk on which bytes are safe, at the places of files.
func written(files map[int]string) *disk.Disk {
	d := disk.New()
	for file, b := range files {
		d.Append(file, []byte(b))
	}
	d.Sync()
	return d
}

// open opens d, which must go well, and holds the records to want.
func open(t *testing.T, d *disk.Disk, want ...string) *wal.Log {
	t.Helper()
	l, records, e := wal.Open(d, api.MinSegment)
	if e != api.OK || l == nil {
		t.Fatalf("Open: error %d, a log %v", e, l != nil)
	}
	if tell(records) != tell(want) {
		t.Fatalf("Open: %s, not %s", tell(records), tell(want))
	}
	return l
}

// refused holds an Open to an error, beside which there is nothing, and which
// turns nothing.
func refused(t *testing.T, name string, d *disk.Disk, segment int, want api.Errno) {
	t.Helper()
	ahead := tellDisk(d)
	if l, records, e := wal.Open(d, segment); e != want || l != nil || len(records) > 0 {
		t.Errorf("%s: Open: a log %v, records %s, error %d; not error %d alone", name, l != nil, tell(records), e, want)
	}
	if now := tellDisk(d); now != ahead {
		t.Errorf("%s: Open that was refused left %s; not %s", name, now, ahead)
	}
}

// is holds an answer to want.
func is(t *testing.T, name string, e, want api.Errno) {
	t.Helper()
	if e != want {
		t.Fatalf("%s: error %d, not %d", name, e, want)
	}
}

// has holds a log to its segments and the size of the last one.
func has(t *testing.T, l *wal.Log, size int, segments ...int) {
	t.Helper()
	if l.Size() != size || fmt.Sprint(l.Segments()) != fmt.Sprint(segments) {
		t.Fatalf("segments %v, size %d; not %v, %d", l.Segments(), l.Size(), segments, size)
	}
}

// of answers a text of n bytes.
func of(n int) string { return strings.Repeat("x", n) }

// scribble turns all of a list, its spare room, too.
func scribble[T any](l []T, with T) {
	l = l[:cap(l)]
	for i := range l {
		l[i] = with
	}
}
