package reed

import (
	"syndrome/api"
	"syndrome/code"
	"syndrome/field"
	"syndrome/matrix"
	"syndrome/poly"
)

// heard: what came of a word: the numbers that are not lost, and their places.
type heard struct {
	f      *field.Field
	k      int
	xs, ys []int
}

// hear leaves out what is lost of a word that may have come.
func hear(f *field.Field, xs []int, k int, w []int) heard {
	h := heard{f: f, k: k}
	for i, y := range w {
		if y != lost {
			h.xs, h.ys = append(h.xs, xs[i]), append(h.ys, y)
		}
	}
	return h
}

// spare is how many numbers came beyond those that a message needs: each two of them mend one error.
func (h heard) spare() int { return len(h.xs) - h.k }

// mend tells the message that one of the ways finds, if its word is near enough.
func mend(q int, xs []int, k int, w []int, find func(h heard) ([]int, bool)) (message []int, errors int, ok bool, e api.Errno) {
	if e := Word(q, xs, k, w); e != api.OK {
		return nil, 0, false, e
	}
	f, e := field.New(q)
	if e != api.OK {
		return nil, 0, false, e
	}
	h := hear(f, xs, k, w)
	if h.spare() < 0 {
		return nil, 0, false, api.OK
	}
	found, ok := find(h)
	if !ok || len(found) > k {
		return nil, 0, false, api.OK
	}
	errors = code.Apart(values(f, found, h.xs), h.ys)
	if 2*errors > h.spare() {
		return nil, 0, false, api.OK
	}
	message = make([]int, k)
	copy(message, found)
	return message, errors, true, api.OK
}

// byEquations looks for two polynomials: one that is 0 where there are errors, and its product with the message's.
// At each place the second is what came there times the first. As the first ends with 1, these are linear equations in all other coefficients, of which there are no more than places.
func byEquations(h heard) ([]int, bool) {
	wrong := h.spare() / 2
	long := h.k + wrong
	rows, right := make([][]int, len(h.xs)), make([]int, len(h.xs))
	for i := range rows {
		rows[i], right[i] = equation(h, i, long, wrong)
	}
	both, ok, e := matrix.Solve(h.f.Size(), rows, right)
	if !ok || e != api.OK {
		return nil, false
	}
	return quotient(h.f, both[:long], append(both[long:], 1))
}

// equation is that of one place: a row for the coefficients of the product, then for those of the other polynomial but its last; and what comes of that one.
func equation(h heard, i, long, wrong int) (row []int, right int) {
	x, y := h.xs[i], h.ys[i]
	for j := range long {
		row = append(row, h.f.Pow(x, j))
	}
	for j := range wrong {
		row = append(row, h.f.Neg(h.f.Mul(y, h.f.Pow(x, j))))
	}
	return row, h.f.Mul(y, h.f.Pow(x, wrong))
}

// byDivisors goes the way to the common divisor of two polynomials: one that is 0 at all places, and one that has there what came.
// Each remainder is a multiple of the second, but for one of the first; half way what the second is multiplied by is 0 where there are errors.
func byDivisors(h heard) ([]int, bool) {
	q := h.f.Size()
	ahead := noughtAt(h.f, h.xs)
	rest, _ := poly.Through(q, h.xs, h.ys)
	before, times := []int(nil), []int{1}
	for 2*(len(rest)-1) >= len(h.xs)+h.k {
		quot, left, e := poly.Div(q, ahead, rest)
		if e != api.OK {
			return nil, false
		}
		product, _ := poly.Mul(q, quot, times)
		ahead, rest = rest, left
		before, times = times, less(h.f, before, 1, product)
	}
	return quotient(h.f, rest, times)
}

// noughtAt is the polynomial of the least degree that is 0 at places; these are so few that no product is too long.
func noughtAt(f *field.Field, xs []int) []int {
	out := []int{1}
	for _, x := range xs {
		out, _ = poly.Mul(f.Size(), out, []int{f.Neg(x), 1})
	}
	return out
}

// quotient is one polynomial by another; false, if there is a rest.
func quotient(f *field.Field, a, b []int) ([]int, bool) {
	quot, rest, e := poly.Div(f.Size(), a, b)
	return quot, e == api.OK && len(rest) == 0
}

// values are those of a polynomial at places.
func values(f *field.Field, a, xs []int) []int {
	out := make([]int, len(xs))
	for place, x := range xs {
		for i := len(a) - 1; i >= 0; i-- {
			out[place] = f.Add(f.Mul(out[place], x), a[i])
		}
	}
	return out
}
