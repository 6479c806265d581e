package hold_test

import (
	"slices"
	"testing"

	"syndrome/api"
	"syndrome/hold"
)

// fake counts how often a test would have ended.
type fake struct{ ended int }

func (f *fake) Helper()               {}
func (f *fake) Fatalf(string, ...any) { f.ended++ }

// ends: does what is held against each other end a test?
func ends(see func(t hold.Test)) bool {
	var f fake
	see(&f)
	return f.ended > 0
}

func TestWhatDiffersEndsATest(t *testing.T) {
	shared := []int{1, 2, 3, 4}
	for i, c := range []struct {
		see  func(t hold.Test)
		want bool
	}{
		{func(t hold.Test) { hold.Same(t, "", 1, 1) }, false},
		{func(t hold.Test) { hold.Same(t, "", 1, 2) }, true},
		{func(t hold.Test) { hold.List(t, "", nil) }, false},
		{func(t hold.Test) { hold.List(t, "", []int{1}, 1) }, false},
		{func(t hold.Test) { hold.List(t, "", []int{1}, 1, 2) }, true},
		{func(t hold.Test) { hold.Lists(t, "", [][]int{{1}, nil}, []int{1}, nil) }, false},
		{func(t hold.Test) { hold.Lists(t, "", [][]int{{1}}, []int{2}) }, true},
		{func(t hold.Test) {
			hold.Code(t, "", hold.AllWords(2, 2), api.Code{Q: 2, N: 2, Rows: [][]int{{1, 0}, {0, 1}}})
		}, false},
		{func(t hold.Test) { hold.Code(t, "", hold.AllWords(2, 2), hold.AllWords(3, 2)) }, true},
		{func(t hold.Test) { hold.Code(t, "", api.Code{Q: 2, N: 2}, api.Code{Q: 2, N: 3}) }, true},
		{func(t hold.Test) { hold.Code(t, "", api.Code{Q: 2, N: 2}, hold.AllWords(2, 2)) }, true},
		{func(t hold.Test) { hold.Apart(t, []int{1}, []int{1}) }, false},
		{func(t hold.Test) { hold.Apart(t, shared[:2], shared[1:]) }, true},
		{func(t hold.Test) { shared[2] = 3; hold.Apart(t, shared[:2], shared[2:]) }, true},
	} {
		if ends(c.see) != c.want {
			t.Errorf("case %d: ended: %v", i, !c.want)
		}
	}
}

func TestHanded(t *testing.T) {
	for what, c := range map[string]struct {
		see  func(list []int) []int
		want bool
	}{
		"told anew":        {func(list []int) []int { return slices.Clone(list) }, false},
		"written into":     {func(list []int) []int { list[0]++; return nil }, true},
		"written behind":   {func(list []int) []int { _ = append(list, 7); return nil }, true},
		"told as it is":    {func(list []int) []int { return list }, true},
		"told what's left": {func(list []int) []int { return list[2:3] }, true},
	} {
		var handed hold.Handed
		list := handed.List(5, 6)
		hold.List(t, what, list, 5, 6)
		out := c.see(list)
		hold.Same(t, what, ends(func(t hold.Test) { handed.Apart(t, out) }), c.want)
	}
}

func TestEach(t *testing.T) {
	hold.Lists(t, "Each", slices.Collect(hold.Each(2, 2)), []int{0, 0}, []int{0, 1}, []int{1, 0}, []int{1, 1})
	hold.Lists(t, "Each of no number", slices.Collect(hold.Each(2, 0)), nil)
	for range hold.Each(9, 99) {
		return // it stops where it is told to
	}
}

func TestDraw(t *testing.T) {
	a, b := hold.Draw(1), hold.Draw(1)
	m := a.Matrix(5, 3, 4)
	hold.Lists(t, "Matrix", m, b.List(5, 4), b.List(5, 4), b.List(5, 4))
	for _, row := range m {
		for _, v := range row {
			hold.Same(t, "from 0 to 4", v >= 0 && v < 5, true)
		}
	}
}

func TestUpTo(t *testing.T) {
	hold.List(t, "UpTo", hold.UpTo(4), 0, 1, 2, 3)
	hold.List(t, "UpTo of no number", hold.UpTo(0))
}

func TestDifferent(t *testing.T) {
	d := hold.Draw(1)
	for many := range 10 {
		got := d.Different(9, many)
		hold.Same(t, "how many", len(got), many)
		for i, v := range got {
			hold.Same(t, "from 0 to 8", v >= 0 && v < 9, true)
			hold.Same(t, "alike", slices.Contains(got[:i], v), false)
		}
	}
}
