package net

import (
	"slices"

	"syndrome/api"
	"syndrome/field"
	"syndrome/matrix"
)

// front: how far the ways to a sink have come: of which way each edge is, and of each way the vector of its last edge so far. These never hang on each other, so nor do they when all have come to the sink.
type front struct {
	of   map[int]int
	last [][]int
}

// units are the vectors with one 1: what the ways begin with at the source.
func units(h int) [][]int {
	out := make([][]int, h)
	for i := range out {
		out[i] = make([]int, h)
		out[i][i] = 1
	}
	return out
}

// bySource are the edges' numbers, those from earlier nodes first: so all that end where an edge begins stand ahead of it.
func bySource(edges []api.Edge) []int {
	out := make([]int, len(edges))
	for i := range out {
		out[i] = i
	}
	slices.SortStableFunc(out, func(a, b int) int { return edges[a].From - edges[b].From })
	return out
}

// pass leads all ways that take an edge over it, and tells its vector: noughts, if none does.
func pass(f *field.Field, fronts []front, edge, h int) []int {
	var xs, ys [][]int
	for _, s := range fronts {
		if way, ok := s.of[edge]; ok {
			xs, ys = append(xs, s.last[way]), append(ys, beside(f, s.last, way))
		}
	}
	out := meeting(f, xs, ys, h)
	for _, s := range fronts {
		if way, ok := s.of[edge]; ok {
			s.last[way] = out
		}
	}
	return out
}

// beside is the vector whose product with one of some vectors is 1, with all others 0. A vector may stand in that one's place, so that they don't hang on each other still, if just its product with this isn't 0.
func beside(f *field.Field, vectors [][]int, one int) []int {
	out, _, _ := matrix.Solve(f.Size(), vectors, units(len(vectors))[one])
	return out
}

// meeting is a sum of multiples of the xs, of h numbers, whose product with none of the ys is 0. The product of each x with its own y isn't 0, and there are no more of them than elements.
func meeting(f *field.Field, xs, ys [][]int, h int) []int {
	out := make([]int, h)
	for i, x := range xs {
		if product(f, out, ys[i]) == 0 { // so with that y nothing but x counts
			out = joined(f, out, x, ys[:i])
		}
	}
	return out
}

// joined is x and a multiple of a sum, whose product with none of the ys is 0. As the sum's own with each of them isn't, each rules out just one multiple, and one is left.
func joined(f *field.Field, sum, x []int, ys [][]int) []int {
	for times := range f.Size() {
		out := make([]int, len(x))
		for i := range out {
			out[i] = f.Add(f.Mul(times, sum[i]), x[i])
		}
		if !slices.ContainsFunc(ys, func(y []int) bool { return product(f, out, y) == 0 }) {
			return out
		}
	}
	return sum
}

// product is the sum of the products of two lists' numbers, which are as many.
func product(f *field.Field, a, b []int) int {
	out := 0
	for i, v := range a {
		out = f.Add(out, f.Mul(v, b[i]))
	}
	return out
}

// only is the one message of which vectors make what came: ErrFail, unless there is just one.
func only(q int, vectors [][]int, came []int) ([]int, api.Errno) {
	rank, e := matrix.Rank(q, vectors)
	if e != api.OK || len(vectors) == 0 || rank < len(vectors[0]) {
		return nil, api.ErrFail
	}
	message, ok, e := matrix.Solve(q, vectors, came)
	if e != api.OK || !ok {
		return nil, api.ErrFail
	}
	return message, api.OK
}
