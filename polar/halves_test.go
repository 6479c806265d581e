package polar

import (
	"testing"

	"syndrome/hold"
)

// TestK4TwoThatDiffer: no word that comes to Decode shows it, so what is read as the first part is told otherwise than it came.
func TestK4TwoThatDiffer(t *testing.T) {
	for _, c := range []struct {
		part []int
		want bool
	}{
		{[]int{1, 0}, false}, {[]int{0, 1}, false}, {[]int{0, 0}, true}, {[]int{1, 1}, true}, {[]int{1, -1}, true}, {[]int{-1, 0}, true}, {[]int{-1, -1}, true},
	} {
		sent, ok := read(c.part, func(number int) (int, bool) { return 0, true })
		hold.Same(t, "is it read", ok, c.want)
		if ok {
			hold.List(t, "what was sent", sent, 0, 0)
		} else {
			hold.List(t, "what was sent", sent)
		}
	}
}
