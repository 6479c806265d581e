package golay

import (
	"slices"

	"syndrome/api"
	"syndrome/code"
	"syndrome/cyclic"
)

// The two codes are made at the start, and never written into: who asks for one gets a copy.
var (
	binary  = extended(2, 23, []int{1, 0, 1, 0, 1, 1, 1, 0, 0, 0, 1, 1})
	ternary = extended(3, 11, []int{2, 0, 1, 2, 1, 1})
)

// extended is the code that Extend makes of a cyclic one.
func extended(q, n int, g []int) api.Code {
	c, e := cyclic.Of(q, n, g)
	if e != api.OK {
		return api.Code{}
	}
	c, _ = code.Extend(c)
	return c
}

// copied is the same code in other memory.
func copied(c api.Code) api.Code {
	rows := make([][]int, len(c.Rows))
	for i, row := range c.Rows {
		rows[i] = slices.Clone(row)
	}
	return api.Code{Q: c.Q, N: c.N, Rows: rows}
}
