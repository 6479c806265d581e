// Package poly: polynomials over finite fields, the lowest coefficient first: see the document's chapter.
package poly

import (
	"syndrome/api"
	"syndrome/field"
)

// Check says whether a polynomial may be.
func Check(q int, a []int) api.Errno {
	f, e := field.New(q)
	if e != api.OK {
		return e
	}
	if len(a) > api.MaxCoefs {
		return api.ErrLimit
	}
	for _, v := range a {
		if !f.Has(v) {
			return api.ErrValue
		}
	}
	return api.OK
}

// Add is the sum.
func Add(q int, a, b []int) ([]int, api.Errno) {
	f, e := over(q, a, b)
	if e != api.OK {
		return nil, e
	}
	return sum(f, a, b), api.OK
}

// Mul is the product.
func Mul(q int, a, b []int) ([]int, api.Errno) {
	f, e := over(q, a, b)
	if e != api.OK {
		return nil, e
	}
	a, b = trim(a), trim(b)
	if len(a)+len(b)-1 > api.MaxCoefs {
		return nil, api.ErrLimit
	}
	return product(f, a, b), api.OK
}

// Div is the quotient, and what is left.
func Div(q int, a, b []int) (quot, rest []int, e api.Errno) {
	f, e := over(q, a, b)
	if e != api.OK {
		return nil, nil, e
	}
	b = trim(b)
	if len(b) == 0 {
		return nil, nil, api.ErrZero
	}
	quot, rest = divide(f, a, b)
	return quot, rest, api.OK
}

// Gcd is the greatest common divisor, with 1 at its end.
func Gcd(q int, a, b []int) ([]int, api.Errno) {
	f, e := over(q, a, b)
	if e != api.OK {
		return nil, e
	}
	a, b = trim(a), trim(b)
	for len(b) > 0 {
		_, rest := divide(f, a, b)
		a, b = b, rest
	}
	return monic(f, a), api.OK
}

// At is the value at an element.
func At(q int, a []int, x int) (int, api.Errno) {
	f, e := over(q, a, []int{x})
	if e != api.OK {
		return 0, e
	}
	return value(f, a, x), api.OK
}

// Through is the polynomial of the least degree with given values.
func Through(q int, xs, ys []int) ([]int, api.Errno) {
	f, e := over(q, xs, ys)
	if e != api.OK {
		return nil, e
	}
	if len(xs) != len(ys) {
		return nil, api.ErrCount
	}
	if hasTwice(xs) {
		return nil, api.ErrTwice
	}
	return through(f, xs, ys), api.OK
}

// Roots are all elements at which it is 0, rising.
func Roots(q int, a []int) ([]int, api.Errno) {
	f, e := over(q, a)
	if e != api.OK {
		return nil, e
	}
	if len(trim(a)) == 0 {
		return nil, api.ErrZero
	}
	var out []int
	for x := range q {
		if value(f, a, x) == 0 {
			out = append(out, x)
		}
	}
	return out, api.OK
}

// Factors are its parts that can't be parted, each with 1 at its end, as often as they are there, in order.
func Factors(q int, a []int) ([][]int, api.Errno) {
	f, e := over(q, a)
	if e != api.OK {
		return nil, e
	}
	a = trim(a)
	if len(a) == 0 {
		return nil, api.ErrZero
	}
	if tooMany(q, (len(a)-1)/2) {
		return nil, api.ErrLimit
	}
	return parts(f, monic(f, a)), api.OK
}

// Irreducible says whether it can't be parted.
func Irreducible(q int, a []int) (bool, api.Errno) {
	all, e := Factors(q, a)
	return len(all) == 1, e
}
