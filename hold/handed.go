package hold

import "slices"

// Handed: the lists that a test hands to calls.
type Handed struct{ whole, before [][]int }

// List is one of these numbers, with others behind it in memory, which no call may read.
func (h *Handed) List(list ...int) []int {
	whole := slices.Concat(list, []int{0, 1, -1, 1, 0, 99})
	h.whole = append(h.whole, whole)
	h.before = append(h.before, slices.Clone(whole))
	return whole[:len(list)]
}

// Apart ends a test, unless all lists that it handed in are as they were, and share no memory with what came out, nor this with each other.
func (h *Handed) Apart(t Test, out ...[]int) {
	t.Helper()
	Lists(t, "what was handed in, and what stands behind it", h.whole, h.before...)
	Apart(t, slices.Concat(h.whole, out)...)
}
