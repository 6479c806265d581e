package field

import (
	"sync"
	"testing"

	"syndrome/api"
)

// lay puts another table on the shelf, and takes it back when the test ends.
func lay(t *testing.T, q int, made *table) {
	t.Helper()
	Kept(q)
	before := shelf[q].made
	shelf[q].made = made
	t.Cleanup(func() { shelf[q].made = before })
}

// sameField ends a test, unless a field is the one that build makes.
func sameField(t *testing.T, what string, q int, f *Field, e api.Errno) {
	t.Helper()
	made := build(q)
	switch {
	case made == nil:
		if f != nil || e != api.ErrField {
			t.Fatalf("%s(%d) => %v, %d", what, q, f, e)
		}
	case e != api.OK || *f.made != *made:
		t.Fatalf("%s(%d) => %v, %d", what, q, f, e)
	}
}

// TestF1ShelfSaysNothing: what the document's calls answer is worked out, whatever stands on the shelf, and they put nothing there.
func TestF1ShelfSaysNothing(t *testing.T) {
	wrong := build(9)
	for q := range shelf {
		if build(q) != nil {
			lay(t, q, wrong)
		}
	}
	for q := -3; q < api.MaxQ+4; q++ {
		f, e := New(q)
		sameField(t, "New", q, f, e)
	}
	f, _ := New(16)
	if in := f.Within(4); len(in) != 4 || in[0] != 0 || in[1] != 1 || in[2] != 6 || in[3] != 7 {
		t.Fatalf("Within(4) => %v", in)
	}
	if l, e := Embed(4, 16); e != api.OK || len(l) != 4 || l[2] != 6 || l[3] != 7 {
		t.Fatalf("Embed(4, 16) => %v, %d", l, e)
	}
	for q := range shelf {
		if made := shelf[q].made; made != nil && made != wrong {
			t.Fatalf("the shelf has another table of %d", q)
		}
	}
}

// TestF1Kept: it tells the fields that New tells.
func TestF1Kept(t *testing.T) {
	for q := -3; q < api.MaxQ+4; q++ {
		f, e := Kept(q)
		sameField(t, "Kept", q, f, e)
	}
}

// TestF1KeptOnce: what stands on the shelf is put there once, and told from there by a copy.
func TestF1KeptOnce(t *testing.T) {
	f, _ := Kept(27)
	before := shelf[27].made
	g, _ := Kept(27)
	if shelf[27].made != before || f.made == before || g.made == before || f.made == g.made {
		t.Fatal("Kept(27): a table was made twice, or handed out")
	}
	lay(t, 27, build(9))
	if f, _ := Kept(27); f.Size() != 9 {
		t.Fatalf("Kept(27) of another table => %d", f.Size())
	}
}

// TestF1KeptAtOnce: many may ask for it first.
func TestF1KeptAtOnce(t *testing.T) {
	var all sync.WaitGroup
	told := [8]*Field{}
	for i := range told {
		all.Go(func() { told[i], _ = Kept(61) })
	}
	all.Wait()
	for _, f := range told {
		sameField(t, "Kept", 61, f, api.OK)
	}
}
