package kv

import (
	"bytes"

	"cutover/api"
	"cutover/octet"
)

const (
	maxKey   = 255
	maxValue = 1<<16 - 1
)

// The byte at the beginning of a change.
const (
	goes = iota
	stays
)

// Lay answers a change as bytes.
func Lay(c api.Change) ([]byte, api.Errno) {
	if !right(c) {
		return nil, api.ErrArg
	}
	w := octet.NewWriter()
	if c.Has {
		w.U8(stays)
		w.Text(c.Key)
		w.Short(c.Value)
	} else {
		w.U8(goes)
		w.Text(c.Key)
	}
	return w.Bytes(), api.OK
}

// Read answers the change that was laid as b. To lay it again tells whether
// it was: no change is laid as bytes that lack, or that have too many.
func Read(b []byte) (api.Change, api.Errno) {
	r := octet.NewReader(b)
	c := api.Change{Has: r.U8() == stays}
	c.Key = r.Text()
	if c.Has {
		c.Value = r.Short()
	}
	again, e := Lay(c)
	if e != api.OK || !bytes.Equal(again, b) {
		return api.Change{}, api.ErrForm
	}
	return c, api.OK
}

// layAll answers changes as bytes, or the error of the first that has one.
func layAll(l []api.Change) ([][]byte, api.Errno) {
	var records [][]byte
	for _, c := range l {
		b, e := Lay(c)
		if e != api.OK {
			return nil, e
		}
		records = append(records, b)
	}
	return records, api.OK
}

// right answers whether c may be laid. What goes has no value.
func right(c api.Change) bool {
	if len(c.Key) == 0 || len(c.Key) > maxKey {
		return false
	}
	if !c.Has {
		return len(c.Value) == 0
	}
	return len(c.Value) <= maxValue
}
