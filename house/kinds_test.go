package house

import (
	"strings"
	"testing"

	"syndrome/api"
	"syndrome/hold"
)

// texts of all kinds of lines, and of none.
var texts = []string{
	"", "\n", "foo", "dual\n", strings.Repeat("x", api.MaxText+1),
	"field 8\ncode 2 7 1101000 0110100 0011010 0001101\nweights\ntransform\nsyndrome 1010101\nnearest 1111000\nextend\nshorten 0\npuncture 1\ndual\nprint\ngolay 3\nprint\nmuller 1 3\nbch 2 15 1 4\nsquares 7\nweights",
	"bounds 2 7 3\nreed 7 2 1 2 0 4 6 6\npolar 3 1011\nmend 4 0 101\nsign 4 236\nring 2 4\ngray 5 2 3 4\ngray\ncode 2\nreed 7 2 x\nprint\n\n",
}

// layOther puts another table where the one stands that was laid at the start, and takes it back when the test ends.
func layOther(t *testing.T, other []kind) {
	t.Helper()
	before := laid
	laid = other
	t.Cleanup(func() { laid = before })
}

// TestQ1StartSaysNothing: what Session answers is worked out, whatever stands there from the start, and it puts nothing there.
func TestQ1StartSaysNothing(t *testing.T) {
	want := make([]string, len(texts))
	for i, text := range texts {
		want[i] = Session(text)
	}
	other := []kind{{"field", 0, dots, (*desk).print}}
	layOther(t, other)
	for i, text := range texts {
		hold.Same(t, "Session", Session(text), want[i])
	}
	hold.Same(t, "what stands there", &laid[0], &other[0])
	hold.Same(t, "what stands there", len(laid), 1)
	hold.Same(t, "what stands there", laid[0].words, dots)
}

// TestQ1Kept: it tells what Session tells.
func TestQ1Kept(t *testing.T) {
	for range 2 {
		for _, text := range texts {
			hold.Same(t, "Kept", Kept(text), Session(text))
		}
	}
}

// TestQ1KeptReads: what it tells comes of what stands there.
func TestQ1KeptReads(t *testing.T) {
	layOther(t, []kind{{"grau", 1, dots, (*desk).gray}})
	hold.Same(t, "Kept", Kept("grau 5 2 3 4\ngray 5 2 3 4"), "0 1 2\nbad\n")
}

// TestQ1Kinds: each name stands there once.
func TestQ1Kinds(t *testing.T) {
	table := kinds()
	hold.Same(t, "how many", len(table), 22)
	for i, k := range table {
		for _, other := range table[:i] {
			hold.Same(t, "the name "+k.name, k.name == other.name, false)
		}
	}
}
