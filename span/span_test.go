package span_test

import (
	"slices"
	"testing"

	"syndrome/api"
	"syndrome/field"
	"syndrome/hold"
	"syndrome/span"
)

func TestPlus(t *testing.T) {
	f, _ := field.New(5)
	var handed hold.Handed
	word, other := handed.List(1, 2, 3), handed.List(4, 0, 1)
	got := span.Plus(f, word, 3, other)
	hold.List(t, "Plus", got, 3, 2, 1)
	handed.Apart(t, got)
}

func TestWords(t *testing.T) {
	var handed hold.Handed
	c := api.Code{Q: 3, N: 3, Rows: [][]int{handed.List(1, 0, 2), handed.List(0, 1, 1)}}
	got := slices.Collect(span.Words(c))
	hold.Lists(t, "Words", got, []int{0, 0, 0}, []int{0, 1, 1}, []int{0, 2, 2}, []int{1, 0, 2}, []int{1, 1, 0}, []int{1, 2, 1}, []int{2, 0, 1}, []int{2, 1, 2}, []int{2, 2, 0})
	handed.Apart(t, got...)
	hold.Lists(t, "Words over 4", slices.Collect(span.Words(api.Code{Q: 4, N: 2, Rows: [][]int{{1, 2}}})), []int{0, 0}, []int{1, 2}, []int{2, 3}, []int{3, 1})
	hold.Lists(t, "Words of no rows", slices.Collect(span.Words(api.Code{Q: 2, N: 2})), []int{0, 0})
	hold.Lists(t, "Words over no field", slices.Collect(span.Words(api.Code{Q: 6, N: 2})))
	for range span.Words(hold.AllWords(64, 64)) {
		return // it stops where it is told to
	}
}
