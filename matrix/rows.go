package matrix

import (
	"slices"

	"syndrome/api"
	"syndrome/field"
)

// checkRow says whether a row may stand in a matrix whose first one is so long.
func checkRow(f *field.Field, row []int, length int) api.Errno {
	switch {
	case len(row) != length || length == 0:
		return api.ErrForm
	case length > api.MaxLength:
		return api.ErrLimit
	case slices.ContainsFunc(row, func(v int) bool { return !f.Has(v) }):
		return api.ErrValue
	}
	return api.OK
}

// over is the field of matrices that may all be.
func over(q int, each ...[][]int) (*field.Field, api.Errno) {
	for _, m := range each {
		if e := Check(q, m); e != api.OK {
			return nil, e
		}
	}
	return field.New(q)
}

// width is how many columns there are; 0, where there are no rows to tell it.
func width(m [][]int) int {
	if len(m) == 0 {
		return 0
	}
	return len(m[0])
}

// wider is a copy of a matrix, with so many columns of noughts behind it.
func wider(m [][]int, more int) [][]int {
	out := make([][]int, len(m))
	for i, row := range m {
		out[i] = make([]int, len(row)+more)
		copy(out[i], row)
	}
	return out
}

// rightOf are the columns of a matrix from one on.
func rightOf(m [][]int, column int) [][]int {
	out := make([][]int, len(m))
	for i, row := range m {
		out[i] = row[column:]
	}
	return out
}

// addTo adds a row to another, so many times; it writes into the other.
func addTo(f *field.Field, row []int, times int, other []int) {
	if times == 0 {
		return
	}
	for i, v := range other {
		row[i] = f.Add(row[i], f.Mul(times, v))
	}
}

// reduce brings rows, which it writes into, to the one form of their first columns, what stands behind these going along; it tells the pivots. The rows that have none come last.
func reduce(f *field.Field, rows [][]int, columns int) []int {
	var pivots []int
	for column := range columns {
		top := len(pivots)
		next := slices.IndexFunc(rows[top:], func(row []int) bool { return row[column] != 0 })
		if next < 0 {
			continue
		}
		rows[top], rows[top+next] = rows[top+next], rows[top]
		clearColumn(f, rows, top, column)
		pivots = append(pivots, column)
	}
	return pivots
}

// clearColumn makes a row begin with 1 in a column, and all others 0 there.
func clearColumn(f *field.Field, rows [][]int, top, column int) {
	inverse := f.Inv(rows[top][column])
	for i, v := range rows[top] {
		rows[top][i] = f.Mul(inverse, v)
	}
	for i, row := range rows {
		if i != top {
			addTo(f, row, f.Neg(row[column]), rows[top])
		}
	}
}

// madeNought is a row for each column that is no pivot: 1 there, 0 at the others, and at the pivots what makes all products 0.
func madeNought(f *field.Field, rows [][]int, pivots []int, columns int) [][]int {
	var out [][]int
	for free := range columns {
		if slices.Contains(pivots, free) {
			continue
		}
		row := make([]int, columns)
		row[free] = 1
		for i, column := range pivots {
			row[column] = f.Neg(rows[i][free])
		}
		out = append(out, row)
	}
	return out
}
