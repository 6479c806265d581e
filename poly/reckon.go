package poly

import (
	"slices"

	"syndrome/api"
	"syndrome/field"
)

// over is the field of polynomials that are handed in; or what Check says of the first of them that may not be.
func over(q int, all ...[]int) (*field.Field, api.Errno) {
	for _, a := range all {
		if e := Check(q, a); e != api.OK {
			return nil, e
		}
	}
	return field.New(q)
}

// trim leaves the noughts at the end out; it shares the list's memory.
func trim(a []int) []int {
	n := len(a)
	for n > 0 && a[n-1] == 0 {
		n--
	}
	return a[:n]
}

func sum(f *field.Field, a, b []int) []int {
	out := make([]int, max(len(a), len(b)))
	copy(out, a)
	for i, v := range b {
		out[i] = f.Add(out[i], v)
	}
	return trim(out)
}

func product(f *field.Field, a, b []int) []int {
	out := make([]int, len(a)+len(b))
	for i, v := range a {
		for j, w := range b {
			out[i+j] = f.Add(out[i+j], f.Mul(v, w))
		}
	}
	return trim(out)
}

// divide parts a by b, which is trimmed and not 0.
func divide(f *field.Field, a, b []int) (quot, rest []int) {
	rest = slices.Clone(a)
	quot = make([]int, max(0, len(a)-len(b)+1))
	last := len(b) - 1
	scale := f.Inv(b[last])
	for i := len(quot) - 1; i >= 0; i-- {
		quot[i] = f.Mul(rest[i+last], scale)
		for j, v := range b {
			rest[i+j] = f.Sub(rest[i+j], f.Mul(quot[i], v))
		}
	}
	return trim(quot), trim(rest)
}

// monic is a trimmed polynomial by its last coefficient, in memory of its own.
func monic(f *field.Field, a []int) []int {
	if len(a) == 0 {
		return nil
	}
	return product(f, a, []int{f.Inv(a[len(a)-1])})
}

func value(f *field.Field, a []int, x int) int {
	v := 0
	for i := len(a) - 1; i >= 0; i-- {
		v = f.Add(f.Mul(v, x), a[i])
	}
	return v
}

// hasTwice says whether an element stands twice in a list.
func hasTwice(xs []int) bool {
	var seen [api.MaxQ]bool
	for _, x := range xs {
		if seen[x] {
			return true
		}
		seen[x] = true
	}
	return false
}

// through goes from place to place: what is added for a new one is 0 at all places ahead, so the values there stay.
func through(f *field.Field, xs, ys []int) []int {
	var out []int
	zero := []int{1}
	for i, x := range xs {
		miss := f.Sub(ys[i], value(f, out, x))
		scale := f.Mul(miss, f.Inv(value(f, zero, x)))
		out = sum(f, out, product(f, zero, []int{scale}))
		zero = product(f, zero, []int{f.Neg(x), 1})
	}
	return out
}

// tooMany says whether q to a power is above MaxTries; it looks at each step, for the power itself may be no number of the machine.
func tooMany(q, power int) bool {
	many := 1
	for range power {
		many *= q
		if many > api.MaxTries {
			return true
		}
	}
	return false
}

// parts are the factors of a polynomial that ends with 1: all that could be one are tried, in the order in which they are told.
// One that divides can't be parted itself: what it were made of would have been taken out ahead of it.
func parts(f *field.Field, a []int) [][]int {
	var out [][]int
	for d := after(f.Size(), []int{1}); 2*len(d) <= len(a)+1; d = after(f.Size(), d) {
	again:
		quot, rest := divide(f, a, d)
		if len(rest) == 0 {
			out = append(out, slices.Clone(d)) // the same one may be found again, and no two lists share memory
			a = quot
			goto again
		}
	}
	if len(a) > 1 {
		out = append(out, a)
	}
	return out
}

// after is the polynomial ending with 1 that comes next in order: the coefficient ahead of the 1 is counted up first.
func after(q int, a []int) []int {
	out := slices.Clone(a)
	for i := len(out) - 2; i >= 0; i-- {
		if out[i]++; out[i] < q {
			return out
		}
		out[i] = 0
	}
	longer := make([]int, len(out)+1)
	longer[len(out)] = 1
	return longer
}
