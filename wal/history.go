package wal

import (
	"cutover/api"
	"cutover/frame"
)

// history is what files come to, told frame by frame.
type history struct {
	// records are those of the last checkpoint that counts and of the commits
	// behind it; since is the file in which that checkpoint stands, or 0, ahead
	// of which there is none.
	records [][]byte
	since   int
	// begun are the records whose mark has not come yet, all of one kind.
	begun [][]byte
	kind  int
}

// read takes the frames of a file, and answers false where one may not stand.
// What stands behind a frame that is not whole can't be told from what a
// crash left, and no mark of another file ends what this one began.
func (h *history) read(f *frame.Framer, file int, b []byte) bool {
	h.begun = nil
	for {
		kind, body, size, e := f.Next(b)
		if e != api.OK {
			return true
		}
		if !h.take(file, kind, body) {
			return false
		}
		b = b[size:]
	}
}

// take takes one frame of a file, and answers false if it may not stand there.
func (h *history) take(file, kind int, body []byte) bool {
	switch kind {
	case commitRecord, checkpointRecord:
		return h.begin(kind, body)
	case commitMark:
		if len(body) > 0 || len(h.begun) == 0 || !h.fits(commitRecord) {
			return false
		}
		h.records = append(h.records, h.begun...)
	case checkpointMark:
		if len(body) > 0 || !h.fits(checkpointRecord) {
			return false
		}
		h.records, h.since = h.begun, file
	default:
		return false
	}
	h.begun = nil
	return true
}

// begin takes a record, which counts when its mark comes.
func (h *history) begin(kind int, body []byte) bool {
	if !h.fits(kind) {
		return false
	}
	h.begun, h.kind = append(h.begun, body), kind
	return true
}

// fits answers whether what was begun, if anything, is of kind.
func (h *history) fits(kind int) bool { return len(h.begun) == 0 || h.kind == kind }
