package code

import (
	"slices"

	"syndrome/api"
	"syndrome/field"
	"syndrome/matrix"
	"syndrome/span"
)

// oneForm is the code of rows that may be.
func oneForm(q, n int, rows [][]int) api.Code {
	reduced, _, _ := matrix.Reduce(q, rows)
	return api.Code{Q: q, N: n, Rows: reduced}
}

// dual is the dual of a code that may be.
func dual(c api.Code) api.Code {
	out := api.Code{Q: c.Q, N: c.N}
	if len(c.Rows) == 0 {
		out.Rows = unit(c.N) // no rows don't tell Null how long a word is
	} else {
		out.Rows, _ = matrix.Null(c.Q, c.Rows)
	}
	return out
}

// unit is the matrix of so many rows that changes nothing.
func unit(size int) [][]int {
	out := make([][]int, size)
	for i := range out {
		out[i] = make([]int, size)
		out[i][i] = 1
	}
	return out
}

// puncture is a code that may lose a place, without it.
func puncture(c api.Code, place int) api.Code {
	rows := make([][]int, len(c.Rows))
	for i, row := range c.Rows {
		rows[i] = slices.Concat(row[:place], row[place+1:])
	}
	return oneForm(c.Q, c.N-1, rows)
}

// sum are all sums of words of two codes of one kind.
func sum(a, b api.Code) api.Code {
	f, e := field.New(a.Q)
	if e != api.OK {
		return api.Code{}
	}
	rows, pivots, _ := matrix.Reduce(a.Q, a.Rows)
	// What the first one's rows leave of the second's is 0 at their pivots: so there are never more rows than places.
	rest := make([][]int, len(b.Rows))
	for i, row := range b.Rows {
		rest[i] = row
		for j, place := range pivots {
			rest[i] = span.Plus(f, rest[i], f.Neg(rest[i][place]), rows[j])
		}
	}
	rest, _, _ = matrix.Reduce(a.Q, rest)
	return oneForm(a.Q, a.N, append(rows, rest...))
}

// numbers says whether there are so many numbers, all of a field, and tells that field.
func numbers(q int, list []int, many int) (*field.Field, api.Errno) {
	f, e := field.New(q)
	switch {
	case e != api.OK:
		return nil, e
	case len(list) != many:
		return nil, api.ErrCount
	case slices.ContainsFunc(list, func(v int) bool { return !f.Has(v) }):
		return nil, api.ErrValue
	}
	return f, api.OK
}

// small is a code by its one form, if it has so few words that they can be gone through.
func small(c api.Code) (api.Code, api.Errno) {
	c, e := Make(c)
	if e != api.OK {
		return api.Code{}, e
	}
	many := 1
	for range c.Rows {
		if many *= c.Q; many > api.MaxWords {
			return api.Code{}, api.ErrLimit
		}
	}
	return c, api.OK
}
