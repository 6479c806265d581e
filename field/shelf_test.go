package field

import (
	"testing"

	"syndrome/api"
)

// lay puts another table on the shelf, and takes it back when the test ends.
func lay(t *testing.T, q int, made *table) {
	t.Helper()
	New(q)
	before := shelf[q].made
	shelf[q].made = made
	t.Cleanup(func() { shelf[q].made = before })
}

// TestF1ShelfSaysNothing: what a field answers is worked out, whatever stands on the shelf.
func TestF1ShelfSaysNothing(t *testing.T) {
	wrong := *build(8)
	wrong.low, wrong.gen = 5, 3
	for _, made := range []*table{build(9), &wrong} {
		lay(t, 8, made)
		f, e := New(8)
		if e != api.OK || f.Size() != 8 || f.Char() != 2 || f.Gen() != 2 || f.Poly()[1] != 1 || f.Mul(5, 3) != 4 {
			t.Fatalf("New(8) => %v, %d", f, e)
		}
	}
}

// TestF1OneTable: fields of one size share what stands there.
func TestF1OneTable(t *testing.T) {
	for q := range api.MaxQ + 1 {
		f, e := New(q)
		if e != api.OK {
			continue
		}
		if g, _ := New(q); g == f || g.made != f.made || f.made != shelf[q].made {
			t.Fatalf("New(%d): two tables, or one field", q)
		}
	}
}
