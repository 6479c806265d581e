package golay

import (
	"slices"

	"syndrome/api"
	"syndrome/code"
	"syndrome/cyclic"
)

// The two codes are made at the start, and never written into; only Kept reads them.
var (
	binary  = Binary()
	ternary = Ternary()
)

// Kept is the code over 2 or 3 that was made at the start, as Binary and Ternary tell it: that spares the making of another one.
func Kept(q int) (api.Code, api.Errno) {
	switch q {
	case 2:
		return copied(binary), api.OK
	case 3:
		return copied(ternary), api.OK
	}
	return api.Code{}, api.ErrKind
}

// extended is the code that Extend makes of a cyclic one.
func extended(q, n int, g []int) api.Code {
	c, e := cyclic.Of(q, n, g)
	if e != api.OK {
		return api.Code{}
	}
	c, _ = code.Extend(c)
	return c
}

// copied is the same code in other memory.
func copied(c api.Code) api.Code {
	rows := make([][]int, len(c.Rows))
	for i, row := range c.Rows {
		rows[i] = slices.Clone(row)
	}
	return api.Code{Q: c.Q, N: c.N, Rows: rows}
}
