// Package hold: how the project's tests hold answers against what they should be. No layer calls it.
package hold

import (
	"iter"
	"slices"

	"syndrome/api"
)

// Test: what of a test is called here.
type Test interface {
	Helper()
	Fatalf(format string, told ...any)
}

// Same ends a test, unless it got what is wanted.
func Same[T comparable](t Test, what string, got, want T) {
	t.Helper()
	if got != want {
		t.Fatalf("%s => %v, want %v", what, got, want)
	}
}

// List ends a test, unless it got these numbers.
func List(t Test, what string, got []int, want ...int) {
	t.Helper()
	if !slices.Equal(got, want) {
		t.Fatalf("%s => %v, want %v", what, got, want)
	}
}

// Lists ends a test, unless it got these lists.
func Lists(t Test, what string, got [][]int, want ...[]int) {
	t.Helper()
	if !slices.EqualFunc(got, want, slices.Equal) {
		t.Fatalf("%s => %v, want %v", what, got, want)
	}
}

// Code ends a test, unless it got that code, with its rows as they stand there.
func Code(t Test, what string, got, want api.Code) {
	t.Helper()
	if got.Q != want.Q || got.N != want.N || !slices.EqualFunc(got.Rows, want.Rows, slices.Equal) {
		t.Fatalf("%s => %v, want %v", what, got, want)
	}
}

// Apart ends a test, if lists share memory; it writes into them, also behind their ends, as these are the caller's, too.
func Apart(t Test, lists ...[]int) {
	t.Helper()
	before := make([][]int, len(lists))
	for i, list := range lists {
		before[i] = slices.Clone(list)
	}
	for i, list := range lists {
		Lists(t, "lists that weren't written into", lists[i:], before[i:]...)
		list = list[:cap(list)]
		for j := range list {
			list[j] = -77
		}
	}
}

// Draw tells numbers that look drawn, the same each time.
type Draw uint64

// Below is a number from 0 on, below one.
func (d *Draw) Below(n int) int {
	*d = *d*6364136223846793005 + 1442695040888963407
	return int(uint64(*d>>33) % uint64(n))
}

// List is a list of so many numbers below one.
func (d *Draw) List(below, many int) []int {
	out := make([]int, many)
	for i := range out {
		out[i] = d.Below(below)
	}
	return out
}

// Different is a list of so many numbers below one, no two of them alike.
func (d *Draw) Different(below, many int) []int {
	out := UpTo(below)
	for i := range many {
		j := i + d.Below(below-i)
		out[i], out[j] = out[j], out[i]
	}
	return out[:many]
}

// Matrix is one of lists of such numbers.
func (d *Draw) Matrix(below, rows, columns int) [][]int {
	out := make([][]int, rows)
	for i := range out {
		out[i] = d.List(below, columns)
	}
	return out
}

// UpTo are the numbers 0, 1, 2, .., so many.
func UpTo(many int) []int {
	out := make([]int, many)
	for i := range out {
		out[i] = i
	}
	return out
}

// AllWords is the code of all words of a length.
func AllWords(q, n int) api.Code {
	c := api.Code{Q: q, N: n, Rows: make([][]int, n)}
	for i := range c.Rows {
		c.Rows[i] = make([]int, n)
		c.Rows[i][i] = 1
	}
	return c
}

// Each goes through all lists of so many numbers below one, in order, each of them new.
func Each(below, many int) iter.Seq[[]int] {
	return func(yield func([]int) bool) { from(0, make([]int, many), below, yield) }
}

// from goes through what may stand in a list from a place on; false: it was stopped.
func from(at int, list []int, below int, yield func([]int) bool) bool {
	if at == len(list) {
		return yield(slices.Clone(list))
	}
	for list[at] = 0; list[at] < below; list[at]++ {
		if !from(at+1, list, below, yield) {
			return false
		}
	}
	return true
}
