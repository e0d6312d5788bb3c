package kv_test

import (
	"bytes"
	"fmt"
	"strings"
	"testing"

	"cutover/api"
	"cutover/kv"
)

// tellChange tells a change; of a Value nil and an empty one are the same.
func tellChange(c api.Change) string { return fmt.Sprintf("%q %v %q", c.Key, c.Has, c.Value) }

// 7.1: a change as bytes, written out.
func TestLay(t *testing.T) {
	for _, c := range []struct {
		change api.Change
		want   string
	}{
		{has("a", "xy"), "\x01\x00\x01a\x00\x02xy"},
		{has("key", ""), "\x01\x00\x03key\x00\x00"},
		{api.Change{Key: "a", Has: true}, "\x01\x00\x01a\x00\x00"},
		{gone("a"), "\x00\x00\x01a"},
		{api.Change{Key: "ab", Value: []byte{}}, "\x00\x00\x02ab"},
		{has("\x00", "\x00\xff"), "\x01\x00\x01\x00\x00\x02\x00\xff"},
		{gone("\xff\xfe"), "\x00\x00\x02\xff\xfe"},
		{gone("ä/ö"), "\x00\x00\x05\xc3\xa4/\xc3\xb6"},
	} {
		b, e := kv.Lay(c.change)
		if e != api.OK || string(b) != c.want {
			t.Errorf("Lay(%s): %q, error %d; not %q", tellChange(c.change), b, e, c.want)
		}
		back, e := kv.Read([]byte(c.want))
		if e != api.OK || tellChange(back) != tellChange(c.change) {
			t.Errorf("Read(%q): %s, error %d", c.want, tellChange(back), e)
		}
	}
}

// 7.1: a Key has 1 to 255 bytes, a Value at most 65535, and none beside a Has
// that is false; at all edges, in all mixes.
func TestLayEdges(t *testing.T) {
	for _, key := range []int{0, 1, 2, 254, 255, 256, 257, 511, 512, 65535, 65536, 65537} {
		for _, value := range []int{0, 1, 255, 256, 65534, 65535, 65536, 65537, 1 << 20} {
			for _, there := range []bool{false, true} {
				c := api.Change{Key: strings.Repeat("k", key), Has: there, Value: []byte(of(value))}
				want, right := api.ErrArg, key >= 1 && key <= 255 && value <= 65535 && (there || value == 0)
				if right {
					want = api.OK
				}
				b, e := kv.Lay(c)
				if e != want || right != (string(b) == record(c)) || !right && len(b) > 0 {
					t.Errorf("a Key of %d, Has %v, a Value of %d: %d bytes, error %d, not %d", key, there, value, len(b), e, want)
				}
				if !right {
					continue
				}
				back, e := kv.Read(b)
				if e != api.OK || tellChange(back) != tellChange(c) {
					t.Errorf("a Key of %d, Has %v, a Value of %d: not read back, error %d", key, there, value, e)
				}
			}
		}
	}
}

// reads holds a Read to the change that is laid as just b, if there is one.
func reads(t *testing.T, b string, want *api.Change) {
	t.Helper()
	c, e := kv.Read([]byte(b))
	switch {
	case want == nil && (e != api.ErrForm || tellChange(c) != tellChange(api.Change{})):
		t.Errorf("Read(%.40q): %.40s, error %d; not ErrForm alone", b, tellChange(c), e)
	case want != nil && (e != api.OK || tellChange(c) != tellChange(*want)):
		t.Errorf("Read(%.40q): %.40s, error %d; not %.40s", b, tellChange(c), e, tellChange(*want))
	}
}

// 7.1: bytes that are laid as no change: cut, too long, of another beginning,
// or of a change that may not be.
func TestReadRefuses(t *testing.T) {
	for _, c := range []api.Change{has("a", "xy"), has("abc", ""), gone("a"), gone(of(255)), has(of(255), of(300))} {
		whole := record(c)
		for n := range len(whole) {
			reads(t, whole[:n], nil)
		}
		for _, more := range []string{"\x00", "z", "\x00\x00", whole} {
			reads(t, whole+more, nil)
		}
		for first := range 256 {
			if byte(first) != whole[0] {
				reads(t, string([]byte{byte(first)})+whole[1:], nil)
			}
		}
		reads(t, whole, &c)
	}
	for _, b := range []string{
		"", "\x00\x00\x00", "\x01\x00\x00\x00\x00", "\x01\x00\x00\x00\x01x",
		"\x00" + short(of(256)), "\x01" + short(of(256)) + short("x"), "\x00" + short(of(65535)),
		"\x00\x00\x01a\x00\x00", "\x00\x00\x01a\x00\x01x", "\x02\x00\x01a", "\x02\x00\x01a\x00\x00", "\xff\x00\x01a\x00\x00",
		"\x01\x00\x01a", "\x01\x00\x01a\x00", "\x01\x00\x01a\x00\x02x", "\x01\x00\x01a\xff\xff", of(1 << 20),
	} {
		reads(t, b, nil)
	}
}

// parsed answers the change that is laid as b, byte by byte, or none.
func parsed(b string) *api.Change {
	if len(b) < 4 || b[0] > 1 || b[1] != 0 || b[2] == 0 || len(b) < 3+int(b[2]) {
		return nil
	}
	key, rest := b[3:3+int(b[2])], b[3+int(b[2]):]
	if b[0] == 0 {
		if rest != "" {
			return nil
		}
		return &api.Change{Key: key}
	}
	if len(rest) < 2 || int(rest[0])<<8|int(rest[1]) != len(rest)-2 {
		return nil
	}
	return &api.Change{Key: key, Has: true, Value: []byte(rest[2:])}
}

// 7.1: all bytes of up to eight of a few kinds.
func TestReadOfAll(t *testing.T) {
	right := 0
	var all func(b string)
	all = func(b string) {
		want := parsed(b)
		if want != nil {
			right++
		}
		reads(t, b, want)
		if len(b) == 8 {
			return
		}
		for _, next := range []string{"\x00", "\x01", "\x02", "a"} {
			all(b + next)
		}
	}
	all("")
	if right == 0 {
		t.Error("none of them was a change")
	}
}

// R2: Lay and Read change nothing of what they are handed, spare room
// included, and what they answer is new memory.
func TestChangesAreApart(t *testing.T) {
	value := []byte("valueSPARE")
	c := api.Change{Key: "key", Has: true, Value: value[:5]}
	b, _ := kv.Lay(c)
	if string(value) != "valueSPARE" {
		t.Errorf("Lay left %q", value)
	}
	scribble(value, '!')
	if string(b) != record(has("key", "value")) {
		t.Errorf("what Lay answered is %q", b)
	}
	copy(value, "valueSPARE")
	scribble(b, '!')
	if string(value) != "valueSPARE" {
		t.Errorf("turned by what Lay answered: %q", value)
	}

	laid := []byte(record(has("key", "value")) + "SPARE")
	end := len(laid) - 5
	ahead := bytes.Clone(laid)
	back, _ := kv.Read(laid[:end])
	if !bytes.Equal(laid, ahead) {
		t.Errorf("Read left %q", laid)
	}
	scribble(laid, '!')
	if tellChange(back) != tellChange(has("key", "value")) {
		t.Errorf("what Read answered is %s", tellChange(back))
	}
	copy(laid, ahead)
	scribble(back.Value, '!')
	if !bytes.Equal(laid, ahead) {
		t.Errorf("turned by what Read answered: %q", laid)
	}
}
