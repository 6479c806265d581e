// Package span: sums of multiples of rows, for the layers that make words or go through all of them.
package span

import (
	"iter"
	"slices"

	"syndrome/api"
	"syndrome/field"
)

// Plus is a word, and another one so many times.
func Plus(f *field.Field, word []int, times int, other []int) []int {
	out := slices.Clone(word)
	for i, v := range other {
		out[i] = f.Add(out[i], f.Mul(times, v))
	}
	return out
}

// Words goes through all words of a code in its one form, in the order of their messages, each of them new.
func Words(c api.Code) iter.Seq[[]int] {
	return func(yield func([]int) bool) {
		if f, e := field.New(c.Q); e == api.OK {
			goThrough(f, make([]int, c.N), c.Rows, yield)
		}
	}
}

// goThrough goes through all sums of a word and multiples of rows; false: it was stopped.
func goThrough(f *field.Field, word []int, rows [][]int, yield func([]int) bool) bool {
	if len(rows) == 0 {
		return yield(word)
	}
	for times := range f.Size() {
		if !goThrough(f, Plus(f, word, times, rows[0]), rows[1:], yield) {
			return false
		}
	}
	return true
}
