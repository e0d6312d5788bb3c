package frame

import "testing"

// Ways: one table for all: a Framer's is made at its first record and serves
// every later one, whether laid or taken.
func TestOneTableForAll(t *testing.T) {
	f := New()
	if n := f.table.Made(); n != 0 {
		t.Errorf("ahead of the first record: made %d times", n)
	}
	table := f.table
	for i := range 50 {
		b, _ := f.Lay(i+1, make([]byte, i))
		f.Next(b)
		if f.table != table || table.Made() != 1 {
			t.Fatalf("behind %d records: another table, or made %d times", i+1, table.Made())
		}
	}
}
