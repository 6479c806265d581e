package matrix_test

import (
	"math"
	"slices"
	"testing"

	"syndrome/api"
	"syndrome/field"
	"syndrome/hold"
	"syndrome/matrix"
)

var sizes = []int{2, 3, 4, 5, 7, 8, 9, 16, 25, 27, 49, 61, 64}

// filled: a matrix with one number at all places.
func filled(rows, columns, value int) [][]int {
	out := make([][]int, rows)
	for i := range out {
		out[i] = slices.Repeat([]int{value}, columns)
	}
	return out
}

func unit(size int) [][]int {
	out := filled(size, size, 0)
	for i := range out {
		out[i][i] = 1
	}
	return out
}

// column: a list, upright.
func column(x []int) [][]int {
	out := make([][]int, len(x))
	for i, v := range x {
		out[i] = []int{v}
	}
	return out
}

// product multiplies by the schoolbook.
func product(q int, a, b [][]int) [][]int {
	f, _ := field.New(q)
	var out [][]int
	for _, row := range a {
		line := make([]int, len(b[0]))
		for j := range line {
			for k, v := range row {
				line[j] = f.Add(line[j], f.Mul(v, b[k][j]))
			}
		}
		out = append(out, line)
	}
	return out
}

// isOneForm: is it of the form that M2 tells, with these pivots?
func isOneForm(rows [][]int, pivots []int) bool {
	if len(rows) != len(pivots) {
		return false
	}
	for i, row := range rows {
		first := slices.IndexFunc(row, func(v int) bool { return v != 0 })
		if first < 0 || first != pivots[i] || row[first] != 1 || i > 0 && pivots[i-1] >= first {
			return false
		}
		for j, other := range rows {
			if j != i && other[first] != 0 {
				return false
			}
		}
	}
	return true
}

// spanned: each sum of multiples of rows, by its text of numbers.
func spanned(q int, rows [][]int, columns int) map[string]bool {
	out := map[string]bool{}
	for x := range hold.Each(q, len(rows)) {
		word := make([]int, columns)
		if len(rows) > 0 {
			word = product(q, [][]int{x}, rows)[0]
		}
		out[text(word)] = true
	}
	return out
}

func text(word []int) string {
	out := make([]byte, len(word))
	for i, v := range word {
		out[i] = byte(v)
	}
	return string(out)
}

func TestM1Check(t *testing.T) {
	long := filled(2, 65, 0)
	for _, c := range []struct {
		what string
		q    int
		m    [][]int
		want api.Errno
	}{
		{"no rows", 2, nil, api.OK},
		{"no rows, not nil", 64, [][]int{}, api.OK},
		{"one number", 2, [][]int{{1}}, api.OK},
		{"the greatest", 64, filled(64, 64, 63), api.OK},
		{"no field", 6, nil, api.ErrField},
		{"no field ahead of too many rows", 1, filled(65, 1, 0), api.ErrField},
		{"too many rows", 2, filled(65, 1, 0), api.ErrLimit},
		{"too many rows ahead of their form", 2, append(filled(64, 1, 0), []int{}), api.ErrLimit},
		{"an empty row", 2, [][]int{{}}, api.ErrForm},
		{"a nil row", 2, [][]int{nil, {1}}, api.ErrForm},
		{"empty rows", 2, make([][]int, 3), api.ErrForm},
		{"a longer row", 2, [][]int{{1}, {1, 0}}, api.ErrForm},
		{"a shorter row", 2, [][]int{{1, 0}, {1}}, api.ErrForm},
		{"an empty row below", 2, [][]int{{1, 0}, {}}, api.ErrForm},
		{"too long", 2, filled(1, 65, 0), api.ErrLimit},
		{"too long ahead of its values", 2, filled(1, 65, 2), api.ErrLimit},
		{"form ahead of length", 2, [][]int{{1}, long[0]}, api.ErrForm},
		{"the first row ahead of the second", 2, [][]int{long[0], {1}}, api.ErrLimit},
		{"no element", 2, [][]int{{0, 2}}, api.ErrValue},
		{"below all elements", 64, [][]int{{0}, {-1}}, api.ErrValue},
		{"far off", 64, [][]int{{math.MaxInt}}, api.ErrValue},
		{"far off below", 3, [][]int{{math.MinInt}}, api.ErrValue},
		{"a row is asked for all ahead of the next", 2, [][]int{{2}, {1, 1}}, api.ErrValue},
	} {
		hold.Same(t, c.what, matrix.Check(c.q, c.m), c.want)
	}
}

// says: what all calls of one matrix say of it.
func says(q int, m [][]int) map[string]api.Errno {
	out := map[string]api.Errno{}
	_, out["Times, first"] = matrix.Times(q, m, [][]int{{9999}})
	_, out["Times, second"] = matrix.Times(q, [][]int{{0}}, m)
	_, _, out["Reduce"] = matrix.Reduce(q, m)
	_, out["Rank"] = matrix.Rank(q, m)
	_, out["Null"] = matrix.Null(q, m)
	_, _, out["Solve"] = matrix.Solve(q, m, make([]int, 99))
	_, out["Inverse"] = matrix.Inverse(q, m)
	return out
}

func TestM1AllCallsCheck(t *testing.T) {
	bad := append(filled(64, 1, 0), []int{})
	for _, c := range []struct {
		q int
		m [][]int
	}{{6, nil}, {0, [][]int{{0}}}, {2, bad}, {2, [][]int{{}}}, {2, [][]int{{1}, {1, 1}}}, {2, filled(1, 65, 0)}, {2, [][]int{{2}}}} {
		want := matrix.Check(c.q, c.m)
		if want == api.OK {
			t.Fatalf("%v may be", c)
		}
		for call, e := range says(c.q, c.m) {
			hold.Same(t, call, e, want)
		}
	}
}

func TestM1NothingBesideAnError(t *testing.T) {
	m := [][]int{{1, 2}, {0, 1}}
	product, _ := matrix.Times(2, m, m)
	rows, pivots, _ := matrix.Reduce(2, m)
	rank, _ := matrix.Rank(2, m)
	null, _ := matrix.Null(2, m)
	x, ok, _ := matrix.Solve(2, m, []int{0, 0})
	short, found, _ := matrix.Solve(3, m, []int{0})
	inverse, _ := matrix.Inverse(2, m)
	flat, _ := matrix.Inverse(3, [][]int{{1, 1}, {2, 2}})
	hold.Same(t, "how much there is", len(product)+len(rows)+len(pivots)+rank+len(null)+len(x)+len(short)+len(inverse)+len(flat), 0)
	hold.Same(t, "true", ok || found, false)
}

func TestM2Times(t *testing.T) {
	d := hold.Draw(1)
	for range 300 {
		q := sizes[d.Below(len(sizes))]
		a := d.Matrix(q, 1+d.Below(5), 1+d.Below(5))
		b := d.Matrix(q, len(a[0]), 1+d.Below(5))
		got, e := matrix.Times(q, a, b)
		hold.Same(t, "Times", e, api.OK)
		hold.Lists(t, "Times", got, product(q, a, b)...)
	}
	got, e := matrix.Times(5, nil, [][]int{{1, 2}})
	hold.Same(t, "no rows", e, api.OK)
	hold.Same(t, "no rows", len(got), 0)
	_, e = matrix.Times(5, [][]int{}, nil)
	hold.Same(t, "no rows, twice", e, api.OK)
	_, e = matrix.Times(5, [][]int{{1}}, nil)
	hold.Same(t, "by no rows", e, api.ErrForm)
	_, e = matrix.Times(5, [][]int{{1, 2}}, [][]int{{1, 2}})
	hold.Same(t, "too few rows", e, api.ErrForm)
	_, e = matrix.Times(5, [][]int{{1}}, [][]int{{1}, {2}})
	hold.Same(t, "too many rows", e, api.ErrForm)
	_, e = matrix.Times(5, [][]int{{1, 2}}, [][]int{{1, 7}})
	hold.Same(t, "no element ahead of form", e, api.ErrValue)
}

func TestM2Reduce(t *testing.T) {
	rows, pivots, e := matrix.Reduce(5, [][]int{{0, 2, 4}, {3, 1, 1}, {3, 3, 0}})
	hold.Same(t, "Reduce", e, api.OK)
	hold.Lists(t, "Reduce", rows, []int{1, 0, 3}, []int{0, 1, 2})
	hold.List(t, "pivots", pivots, 0, 1)
	d := hold.Draw(2)
	for range 200 {
		q, columns := []int{2, 3, 4, 5}[d.Below(4)], 1+d.Below(5)
		m := d.Matrix(q, 1+d.Below(4), columns)
		rows, pivots, _ := matrix.Reduce(q, m)
		if !isOneForm(rows, pivots) {
			t.Fatalf("Reduce(%d, %v) => %v, %v", q, m, rows, pivots)
		}
		before, after := spanned(q, m, columns), spanned(q, rows, columns)
		hold.Same(t, "how many words", len(after), len(before))
		for word := range after {
			hold.Same(t, "a word of before", before[word], true)
		}
		rank, e := matrix.Rank(q, m)
		hold.Same(t, "Rank's error", e, api.OK)
		hold.Same(t, "Rank", rank, len(rows))
	}
}

func TestM2Noughts(t *testing.T) {
	for _, m := range [][][]int{nil, {}, {{0, 0}}, filled(64, 64, 0)} {
		rows, pivots, e := matrix.Reduce(9, m)
		hold.Same(t, "Reduce's error", e, api.OK)
		hold.Same(t, "rows and pivots", len(rows)+len(pivots), 0)
		rank, _ := matrix.Rank(9, m)
		hold.Same(t, "Rank", rank, 0)
	}
	null, e := matrix.Null(9, nil)
	hold.Same(t, "Null of no rows", e, api.OK)
	hold.Same(t, "Null of no rows", len(null), 0)
	null, _ = matrix.Null(9, [][]int{{0, 0, 0}})
	hold.Lists(t, "Null of noughts", null, unit(3)...)
	null, _ = matrix.Null(9, unit(64))
	hold.Same(t, "Null of the unit", len(null), 0)
}

func TestM2Null(t *testing.T) {
	d := hold.Draw(3)
	for range 200 {
		q, columns := []int{2, 3, 4, 5}[d.Below(4)], 1+d.Below(5)
		m := d.Matrix(q, 1+d.Below(4), columns)
		null, e := matrix.Null(q, m)
		hold.Same(t, "Null's error", e, api.OK)
		again, _, _ := matrix.Reduce(q, null)
		hold.Lists(t, "Null's one form", null, again...)
		words := spanned(q, null, columns)
		for x := range hold.Each(q, columns) {
			nought := !slices.ContainsFunc(product(q, m, column(x)), func(v []int) bool { return v[0] != 0 })
			hold.Same(t, "a word of Null", words[text(x)], nought)
		}
	}
}

func TestM3Solve(t *testing.T) {
	d := hold.Draw(4)
	for range 150 {
		q, columns := []int{2, 3, 4, 5}[d.Below(4)], 1+d.Below(4)
		m := d.Matrix(q, 1+d.Below(4), columns)
		b := d.List(q, len(m))
		_, pivots, _ := matrix.Reduce(q, m)
		var want []int
		for x := range hold.Each(q, columns) {
			off := 0
			for i, v := range x {
				if v != 0 && !slices.Contains(pivots, i) {
					off++
				}
			}
			if off == 0 && slices.EqualFunc(product(q, m, column(x)), b, func(v []int, w int) bool { return v[0] == w }) {
				want = slices.Clone(x)
			}
		}
		got, ok, e := matrix.Solve(q, m, b)
		hold.Same(t, "Solve's error", e, api.OK)
		hold.Same(t, "is there one", ok, want != nil)
		hold.List(t, "Solve", got, want...)
	}
}

func TestM3SolveEdges(t *testing.T) {
	x, ok, e := matrix.Solve(7, nil, nil)
	hold.Same(t, "no rows", e, api.OK)
	hold.Same(t, "no rows", ok, true)
	hold.Same(t, "no rows", len(x), 0)
	_, ok, e = matrix.Solve(7, nil, []int{9})
	hold.Same(t, "a number for no row", e, api.ErrCount)
	hold.Same(t, "a number for no row", ok, false)
	_, _, e = matrix.Solve(7, [][]int{{1}, {2}}, []int{9})
	hold.Same(t, "count ahead of value", e, api.ErrCount)
	_, _, e = matrix.Solve(7, [][]int{{1}, {2}}, []int{0, 7})
	hold.Same(t, "no element", e, api.ErrValue)
	_, _, e = matrix.Solve(7, [][]int{{1}, {2}}, []int{-1, 0})
	hold.Same(t, "below all elements", e, api.ErrValue)
	x, ok, e = matrix.Solve(7, [][]int{{1, 1}, {2, 2}}, []int{1, 3})
	hold.Same(t, "no x", e, api.OK)
	hold.Same(t, "no x", ok, false)
	hold.Same(t, "no x", len(x), 0)
	x, ok, _ = matrix.Solve(64, unit(64), slices.Repeat([]int{63}, 64))
	hold.Same(t, "the greatest", ok, true)
	hold.List(t, "the greatest", x, slices.Repeat([]int{63}, 64)...)
}

func TestM3Inverse(t *testing.T) {
	d := hold.Draw(5)
	for range 200 {
		q, size := sizes[d.Below(len(sizes))], 1+d.Below(5)
		m := d.Matrix(q, size, size)
		rank, _ := matrix.Rank(q, m)
		inverse, e := matrix.Inverse(q, m)
		if rank < size {
			hold.Same(t, "of less rank", e, api.ErrRank)
			hold.Same(t, "of less rank", len(inverse), 0)
			continue
		}
		hold.Same(t, "Inverse's error", e, api.OK)
		hold.Lists(t, "before it", product(q, inverse, m), unit(size)...)
		hold.Lists(t, "behind it", product(q, m, inverse), unit(size)...)
	}
	inverse, e := matrix.Inverse(64, unit(64))
	hold.Same(t, "the greatest", e, api.OK)
	hold.Lists(t, "the greatest", inverse, unit(64)...)
	inverse, e = matrix.Inverse(2, nil)
	hold.Same(t, "of nothing", e, api.OK)
	hold.Same(t, "of nothing", len(inverse), 0)
	for _, m := range [][][]int{{{0, 0}}, {{0}, {0}}} {
		_, e = matrix.Inverse(2, m)
		hold.Same(t, "not as many columns as rows", e, api.ErrForm)
	}
}

// TestListsAreTheCallers: nothing that is handed in is written into, and what comes out shares no memory with it, nor with each other.
func TestListsAreTheCallers(t *testing.T) {
	m, twin := [][]int{{2, 1, 0}, {1, 1, 1}, {0, 0, 3}}, [][]int{{2, 1, 0}, {1, 1, 1}, {0, 0, 3}}
	flat := []int{1, 2, 3}
	b := []int{1, 2, 3}
	var outs [][]int
	keep := func(rows [][]int, e api.Errno) { outs = append(outs, rows...) }
	keep(matrix.Times(5, m, unit(3)))
	keep(matrix.Times(5, unit(3), m))
	keep(matrix.Times(5, unit(3), unit(3)))
	keep(matrix.Null(5, [][]int{flat}))
	keep(matrix.Inverse(5, m))
	for _, one := range [][][]int{m, unit(3), {flat, flat}} {
		rows, pivots, _ := matrix.Reduce(5, one)
		outs = append(append(outs, rows...), pivots)
	}
	x, _, _ := matrix.Solve(5, unit(3), b)
	outs = append(outs, x)
	hold.Apart(t, outs...)
	hold.Lists(t, "what was handed in", m, twin...)
	hold.List(t, "what was handed in", flat, 1, 2, 3)
	hold.List(t, "what was handed in", b, 1, 2, 3)
}
