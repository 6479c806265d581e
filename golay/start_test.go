package golay

import (
	"math"
	"slices"
	"testing"

	"syndrome/api"
	"syndrome/hold"
)

// lay puts other codes where the two stand that were made at the start, and takes them back when the test ends.
func lay(t *testing.T, two, three api.Code) {
	t.Helper()
	before := [2]api.Code{binary, ternary}
	binary, ternary = two, three
	t.Cleanup(func() { binary, ternary = before[0], before[1] })
}

// TestG1StartSaysNothing: what the document's calls answer is worked out, whatever stands there from the start, and they put nothing there.
func TestG1StartSaysNothing(t *testing.T) {
	two, three := Binary(), Ternary()
	wrong := hold.AllWords(4, 3)
	lay(t, wrong, api.Code{})
	hold.Code(t, "Binary", Binary(), two)
	hold.Code(t, "Ternary", Ternary(), three)
	hold.Same(t, "their rows", len(two.Rows)+len(three.Rows), 18)
	blocks, e := Blocks(two, 8)
	hold.Same(t, "Blocks's error", e, api.OK)
	hold.Same(t, "how many blocks", len(blocks), 759)
	many, ok, _ := Design(24, blocks, 5)
	hold.Same(t, "Design", many, 1)
	hold.Same(t, "Design", ok, true)
	is, _ := Perfect(three, 2)
	hold.Same(t, "Perfect", is, false)
	is, _ = Perfect(hold.AllWords(2, 3), 0)
	hold.Same(t, "Perfect", is, true)
	hold.Code(t, "what was laid there", binary, hold.AllWords(4, 3))
	hold.Code(t, "what was laid there", ternary, api.Code{})
}

// TestG1Kept: it tells the codes that Binary and Ternary tell, and no other one.
func TestG1Kept(t *testing.T) {
	for q, want := range map[int]api.Code{2: Binary(), 3: Ternary()} {
		got, e := Kept(q)
		hold.Same(t, "Kept's error", e, api.OK)
		hold.Code(t, "Kept", got, want)
	}
	for _, q := range []int{-1, 0, 1, 4, 23, math.MinInt, math.MaxInt} {
		got, e := Kept(q)
		hold.Same(t, "Kept's error", e, api.ErrKind)
		hold.Code(t, "told beside an error", got, api.Code{})
	}
}

// TestG1KeptIsACopy: what is told is what stands there, in other memory.
func TestG1KeptIsACopy(t *testing.T) {
	lay(t, hold.AllWords(4, 3), hold.AllWords(9, 2))
	var out [][]int
	for range 2 {
		two, _ := Kept(2)
		three, _ := Kept(3)
		hold.Code(t, "Kept(2)", two, hold.AllWords(4, 3))
		hold.Code(t, "Kept(3)", three, hold.AllWords(9, 2))
		out = slices.Concat(out, two.Rows, three.Rows)
	}
	hold.Apart(t, slices.Concat(out, binary.Rows, ternary.Rows)...)
	lay(t, hold.AllWords(4, 3), hold.AllWords(9, 2))
	two, _ := Kept(2)
	two.Rows[0] = nil
	hold.Code(t, "what stands there", binary, hold.AllWords(4, 3))
}
