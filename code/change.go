package code

import (
	"slices"

	"syndrome/api"
	"syndrome/field"
)

// Puncture: without a place.
func Puncture(c api.Code, place int) (api.Code, api.Errno) {
	if e := checkPlace(c, place); e != api.OK {
		return api.Code{}, e
	}
	return puncture(c, place), api.OK
}

// Shorten: those words that are 0 at a place, without it.
func Shorten(c api.Code, place int) (api.Code, api.Errno) {
	if e := checkPlace(c, place); e != api.OK {
		return api.Code{}, e
	}
	// A word that is 0 there is one whose products with the dual's words don't hang on that place.
	return dual(puncture(dual(c), place)), api.OK
}

// Extend: each word with one number more, so that all together are 0.
func Extend(c api.Code) (api.Code, api.Errno) {
	if e := Check(c); e != api.OK {
		return api.Code{}, e
	}
	if c.N == api.MaxLength {
		return api.Code{}, api.ErrLimit
	}
	f, e := field.New(c.Q)
	if e != api.OK {
		return api.Code{}, e
	}
	rows := make([][]int, len(c.Rows))
	for i, row := range c.Rows {
		sum := 0
		for _, v := range row {
			sum = f.Add(sum, v)
		}
		rows[i] = append(slices.Clone(row), f.Neg(sum))
	}
	return oneForm(c.Q, c.N+1, rows), api.OK
}

// Sum are all sums of words of two codes.
func Sum(a, b api.Code) (api.Code, api.Errno) {
	if e := checkBoth(a, b); e != api.OK {
		return api.Code{}, e
	}
	return sum(a, b), api.OK
}

// Meet are the words that both have.
func Meet(a, b api.Code) (api.Code, api.Errno) {
	if e := checkBoth(a, b); e != api.OK {
		return api.Code{}, e
	}
	// What both have is what all words of both duals make 0.
	return dual(sum(dual(a), dual(b))), api.OK
}

// checkPlace says whether a code may lose a place.
func checkPlace(c api.Code, place int) api.Errno {
	switch e := Check(c); {
	case e != api.OK:
		return e
	case place < 0 || place >= c.N:
		return api.ErrPlace
	case c.N == 1:
		return api.ErrLimit
	}
	return api.OK
}

// checkBoth says whether two codes are of one field and one length.
func checkBoth(a, b api.Code) api.Errno {
	if e := Check(a); e != api.OK {
		return e
	}
	if e := Check(b); e != api.OK {
		return e
	}
	if a.Q != b.Q || a.N != b.N {
		return api.ErrForm
	}
	return api.OK
}
