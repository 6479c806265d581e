package matrix_test

import (
	"math"
	"slices"
	"testing"

	"syndrome/api"
	"syndrome/field"
	"syndrome/matrix"
)

// draw tells numbers that look drawn, the same each time.
type draw uint64

func (d *draw) below(n int) int {
	*d = *d*6364136223846793005 + 1442695040888963407
	return int(uint64(*d>>33) % uint64(n))
}

func (d *draw) list(q, many int) []int {
	out := make([]int, many)
	for i := range out {
		if d.below(3) > 0 { // noughts are what most ways branch by
			out[i] = d.below(q)
		}
	}
	return out
}

func (d *draw) matrix(q, rows, columns int) [][]int {
	out := make([][]int, rows)
	for i := range out {
		out[i] = d.list(q, columns)
	}
	return out
}

var sizes = []int{2, 3, 4, 5, 7, 8, 9, 16, 25, 27, 49, 61, 64}

func same(t *testing.T, what string, got, want any) {
	t.Helper()
	if got != want {
		t.Fatalf("%s => %v, want %v", what, got, want)
	}
}

func sameList(t *testing.T, what string, got []int, want ...int) {
	t.Helper()
	if !slices.Equal(got, want) {
		t.Fatalf("%s => %v, want %v", what, got, want)
	}
}

func sameLists(t *testing.T, what string, got [][]int, want ...[]int) {
	t.Helper()
	if !slices.EqualFunc(got, want, slices.Equal) {
		t.Fatalf("%s => %v, want %v", what, got, want)
	}
}

// filled: a matrix with one number at all places.
func filled(rows, columns, value int) [][]int {
	out := make([][]int, rows)
	for i := range out {
		out[i] = slices.Repeat([]int{value}, columns)
	}
	return out
}

func unit(size int) [][]int {
	out := filled(size, size, 0)
	for i := range out {
		out[i][i] = 1
	}
	return out
}

// column: a list, upright.
func column(x []int) [][]int {
	out := make([][]int, len(x))
	for i, v := range x {
		out[i] = []int{v}
	}
	return out
}

// product multiplies by the schoolbook.
func product(q int, a, b [][]int) [][]int {
	f, _ := field.New(q)
	var out [][]int
	for _, row := range a {
		line := make([]int, len(b[0]))
		for j := range line {
			for k, v := range row {
				line[j] = f.Add(line[j], f.Mul(v, b[k][j]))
			}
		}
		out = append(out, line)
	}
	return out
}

// each goes through all lists of so many elements, in order.
func each(q, many int, see func(x []int)) {
	x := make([]int, many)
	for {
		see(x)
		i := many - 1
		for ; i >= 0 && x[i] == q-1; i-- {
			x[i] = 0
		}
		if i < 0 {
			return
		}
		x[i]++
	}
}

// isOneForm: is it of the form that M2 tells, with these pivots?
func isOneForm(rows [][]int, pivots []int) bool {
	if len(rows) != len(pivots) {
		return false
	}
	for i, row := range rows {
		first := slices.IndexFunc(row, func(v int) bool { return v != 0 })
		if first < 0 || first != pivots[i] || row[first] != 1 || i > 0 && pivots[i-1] >= first {
			return false
		}
		for j, other := range rows {
			if j != i && other[first] != 0 {
				return false
			}
		}
	}
	return true
}

// spanned: each sum of multiples of rows, by its text of numbers.
func spanned(q int, rows [][]int, columns int) map[string]bool {
	out := map[string]bool{}
	each(q, len(rows), func(x []int) {
		word := make([]int, columns)
		if len(rows) > 0 {
			word = product(q, [][]int{x}, rows)[0]
		}
		out[text(word)] = true
	})
	return out
}

func text(word []int) string {
	out := make([]byte, len(word))
	for i, v := range word {
		out[i] = byte(v)
	}
	return string(out)
}

func TestM1Check(t *testing.T) {
	long := filled(2, 65, 0)
	for _, c := range []struct {
		what string
		q    int
		m    [][]int
		want api.Errno
	}{
		{"no rows", 2, nil, api.OK},
		{"no rows, not nil", 64, [][]int{}, api.OK},
		{"one number", 2, [][]int{{1}}, api.OK},
		{"the greatest", 64, filled(64, 64, 63), api.OK},
		{"no field", 6, nil, api.ErrField},
		{"no field ahead of too many rows", 1, filled(65, 1, 0), api.ErrField},
		{"too many rows", 2, filled(65, 1, 0), api.ErrLimit},
		{"too many rows ahead of their form", 2, append(filled(64, 1, 0), []int{}), api.ErrLimit},
		{"an empty row", 2, [][]int{{}}, api.ErrForm},
		{"a nil row", 2, [][]int{nil, {1}}, api.ErrForm},
		{"empty rows", 2, make([][]int, 3), api.ErrForm},
		{"a longer row", 2, [][]int{{1}, {1, 0}}, api.ErrForm},
		{"a shorter row", 2, [][]int{{1, 0}, {1}}, api.ErrForm},
		{"an empty row below", 2, [][]int{{1, 0}, {}}, api.ErrForm},
		{"too long", 2, filled(1, 65, 0), api.ErrLimit},
		{"too long ahead of its values", 2, filled(1, 65, 2), api.ErrLimit},
		{"form ahead of length", 2, [][]int{{1}, long[0]}, api.ErrForm},
		{"the first row ahead of the second", 2, [][]int{long[0], {1}}, api.ErrLimit},
		{"no element", 2, [][]int{{0, 2}}, api.ErrValue},
		{"below all elements", 64, [][]int{{0}, {-1}}, api.ErrValue},
		{"far off", 64, [][]int{{math.MaxInt}}, api.ErrValue},
		{"far off below", 3, [][]int{{math.MinInt}}, api.ErrValue},
		{"a row is asked for all ahead of the next", 2, [][]int{{2}, {1, 1}}, api.ErrValue},
	} {
		same(t, c.what, matrix.Check(c.q, c.m), c.want)
	}
}

// says: what all calls of one matrix say of it.
func says(q int, m [][]int) map[string]api.Errno {
	out := map[string]api.Errno{}
	_, out["Times, first"] = matrix.Times(q, m, [][]int{{9999}})
	_, out["Times, second"] = matrix.Times(q, [][]int{{0}}, m)
	_, _, out["Reduce"] = matrix.Reduce(q, m)
	_, out["Rank"] = matrix.Rank(q, m)
	_, out["Null"] = matrix.Null(q, m)
	_, _, out["Solve"] = matrix.Solve(q, m, make([]int, 99))
	_, out["Inverse"] = matrix.Inverse(q, m)
	return out
}

func TestM1AllCallsCheck(t *testing.T) {
	bad := append(filled(64, 1, 0), []int{})
	for _, c := range []struct {
		q int
		m [][]int
	}{{6, nil}, {0, [][]int{{0}}}, {2, bad}, {2, [][]int{{}}}, {2, [][]int{{1}, {1, 1}}}, {2, filled(1, 65, 0)}, {2, [][]int{{2}}}} {
		want := matrix.Check(c.q, c.m)
		if want == api.OK {
			t.Fatalf("%v may be", c)
		}
		for call, e := range says(c.q, c.m) {
			same(t, call, e, want)
		}
	}
}

func TestM1NothingBesideAnError(t *testing.T) {
	m := [][]int{{1, 2}, {0, 1}}
	product, _ := matrix.Times(2, m, m)
	rows, pivots, _ := matrix.Reduce(2, m)
	rank, _ := matrix.Rank(2, m)
	null, _ := matrix.Null(2, m)
	x, ok, _ := matrix.Solve(2, m, []int{0, 0})
	short, found, _ := matrix.Solve(3, m, []int{0})
	inverse, _ := matrix.Inverse(2, m)
	flat, _ := matrix.Inverse(3, [][]int{{1, 1}, {2, 2}})
	same(t, "how much there is", len(product)+len(rows)+len(pivots)+rank+len(null)+len(x)+len(short)+len(inverse)+len(flat), 0)
	same(t, "true", ok || found, false)
}

func TestM2Times(t *testing.T) {
	d := draw(1)
	for range 300 {
		q := sizes[d.below(len(sizes))]
		a := d.matrix(q, 1+d.below(5), 1+d.below(5))
		b := d.matrix(q, len(a[0]), 1+d.below(5))
		got, e := matrix.Times(q, a, b)
		same(t, "Times", e, api.OK)
		sameLists(t, "Times", got, product(q, a, b)...)
	}
	got, e := matrix.Times(5, nil, [][]int{{1, 2}})
	same(t, "no rows", e, api.OK)
	same(t, "no rows", len(got), 0)
	_, e = matrix.Times(5, [][]int{}, nil)
	same(t, "no rows, twice", e, api.OK)
	_, e = matrix.Times(5, [][]int{{1}}, nil)
	same(t, "by no rows", e, api.ErrForm)
	_, e = matrix.Times(5, [][]int{{1, 2}}, [][]int{{1, 2}})
	same(t, "too few rows", e, api.ErrForm)
	_, e = matrix.Times(5, [][]int{{1}}, [][]int{{1}, {2}})
	same(t, "too many rows", e, api.ErrForm)
	_, e = matrix.Times(5, [][]int{{1, 2}}, [][]int{{1, 7}})
	same(t, "no element ahead of form", e, api.ErrValue)
}

func TestM2Reduce(t *testing.T) {
	rows, pivots, e := matrix.Reduce(5, [][]int{{0, 2, 4}, {3, 1, 1}, {3, 3, 0}})
	same(t, "Reduce", e, api.OK)
	sameLists(t, "Reduce", rows, []int{1, 0, 3}, []int{0, 1, 2})
	sameList(t, "pivots", pivots, 0, 1)
	d := draw(2)
	for range 200 {
		q, columns := []int{2, 3, 4, 5}[d.below(4)], 1+d.below(5)
		m := d.matrix(q, 1+d.below(4), columns)
		rows, pivots, _ := matrix.Reduce(q, m)
		if !isOneForm(rows, pivots) {
			t.Fatalf("Reduce(%d, %v) => %v, %v", q, m, rows, pivots)
		}
		before, after := spanned(q, m, columns), spanned(q, rows, columns)
		same(t, "how many words", len(after), len(before))
		for word := range after {
			same(t, "a word of before", before[word], true)
		}
		rank, e := matrix.Rank(q, m)
		same(t, "Rank's error", e, api.OK)
		same(t, "Rank", rank, len(rows))
	}
}

func TestM2Noughts(t *testing.T) {
	for _, m := range [][][]int{nil, {}, {{0, 0}}, filled(64, 64, 0)} {
		rows, pivots, e := matrix.Reduce(9, m)
		same(t, "Reduce's error", e, api.OK)
		same(t, "rows and pivots", len(rows)+len(pivots), 0)
		rank, _ := matrix.Rank(9, m)
		same(t, "Rank", rank, 0)
	}
	null, e := matrix.Null(9, nil)
	same(t, "Null of no rows", e, api.OK)
	same(t, "Null of no rows", len(null), 0)
	null, _ = matrix.Null(9, [][]int{{0, 0, 0}})
	sameLists(t, "Null of noughts", null, unit(3)...)
	null, _ = matrix.Null(9, unit(64))
	same(t, "Null of the unit", len(null), 0)
}

func TestM2Null(t *testing.T) {
	d := draw(3)
	for range 200 {
		q, columns := []int{2, 3, 4, 5}[d.below(4)], 1+d.below(5)
		m := d.matrix(q, 1+d.below(4), columns)
		null, e := matrix.Null(q, m)
		same(t, "Null's error", e, api.OK)
		again, _, _ := matrix.Reduce(q, null)
		sameLists(t, "Null's one form", null, again...)
		words := spanned(q, null, columns)
		each(q, columns, func(x []int) {
			nought := !slices.ContainsFunc(product(q, m, column(x)), func(v []int) bool { return v[0] != 0 })
			same(t, "a word of Null", words[text(x)], nought)
		})
	}
}

func TestM3Solve(t *testing.T) {
	d := draw(4)
	for range 150 {
		q, columns := []int{2, 3, 4, 5}[d.below(4)], 1+d.below(4)
		m := d.matrix(q, 1+d.below(4), columns)
		b := d.list(q, len(m))
		_, pivots, _ := matrix.Reduce(q, m)
		var want []int
		each(q, columns, func(x []int) {
			off := 0
			for i, v := range x {
				if v != 0 && !slices.Contains(pivots, i) {
					off++
				}
			}
			if off == 0 && slices.EqualFunc(product(q, m, column(x)), b, func(v []int, w int) bool { return v[0] == w }) {
				want = slices.Clone(x)
			}
		})
		got, ok, e := matrix.Solve(q, m, b)
		same(t, "Solve's error", e, api.OK)
		same(t, "is there one", ok, want != nil)
		sameList(t, "Solve", got, want...)
	}
}

func TestM3SolveEdges(t *testing.T) {
	x, ok, e := matrix.Solve(7, nil, nil)
	same(t, "no rows", e, api.OK)
	same(t, "no rows", ok, true)
	same(t, "no rows", len(x), 0)
	_, ok, e = matrix.Solve(7, nil, []int{9})
	same(t, "a number for no row", e, api.ErrCount)
	same(t, "a number for no row", ok, false)
	_, _, e = matrix.Solve(7, [][]int{{1}, {2}}, []int{9})
	same(t, "count ahead of value", e, api.ErrCount)
	_, _, e = matrix.Solve(7, [][]int{{1}, {2}}, []int{0, 7})
	same(t, "no element", e, api.ErrValue)
	_, _, e = matrix.Solve(7, [][]int{{1}, {2}}, []int{-1, 0})
	same(t, "below all elements", e, api.ErrValue)
	x, ok, e = matrix.Solve(7, [][]int{{1, 1}, {2, 2}}, []int{1, 3})
	same(t, "no x", e, api.OK)
	same(t, "no x", ok, false)
	same(t, "no x", len(x), 0)
	x, ok, _ = matrix.Solve(64, unit(64), slices.Repeat([]int{63}, 64))
	same(t, "the greatest", ok, true)
	sameList(t, "the greatest", x, slices.Repeat([]int{63}, 64)...)
}

func TestM3Inverse(t *testing.T) {
	d := draw(5)
	for range 200 {
		q, size := sizes[d.below(len(sizes))], 1+d.below(5)
		m := d.matrix(q, size, size)
		rank, _ := matrix.Rank(q, m)
		inverse, e := matrix.Inverse(q, m)
		if rank < size {
			same(t, "of less rank", e, api.ErrRank)
			same(t, "of less rank", len(inverse), 0)
			continue
		}
		same(t, "Inverse's error", e, api.OK)
		sameLists(t, "before it", product(q, inverse, m), unit(size)...)
		sameLists(t, "behind it", product(q, m, inverse), unit(size)...)
	}
	inverse, e := matrix.Inverse(64, unit(64))
	same(t, "the greatest", e, api.OK)
	sameLists(t, "the greatest", inverse, unit(64)...)
	inverse, e = matrix.Inverse(2, nil)
	same(t, "of nothing", e, api.OK)
	same(t, "of nothing", len(inverse), 0)
	for _, m := range [][][]int{{{0, 0}}, {{0}, {0}}} {
		_, e = matrix.Inverse(2, m)
		same(t, "not as many columns as rows", e, api.ErrForm)
	}
}

// TestListsAreTheCallers: nothing that is handed in is written into, and what comes out shares no memory with it, nor with each other.
func TestListsAreTheCallers(t *testing.T) {
	m, twin := [][]int{{2, 1, 0}, {1, 1, 1}, {0, 0, 3}}, [][]int{{2, 1, 0}, {1, 1, 1}, {0, 0, 3}}
	flat := []int{1, 2, 3}
	b := []int{1, 2, 3}
	var outs [][]int
	keep := func(rows [][]int, e api.Errno) { outs = append(outs, rows...) }
	keep(matrix.Times(5, m, unit(3)))
	keep(matrix.Times(5, unit(3), m))
	keep(matrix.Times(5, unit(3), unit(3)))
	keep(matrix.Null(5, [][]int{flat}))
	keep(matrix.Inverse(5, m))
	for _, one := range [][][]int{m, unit(3), {flat, flat}} {
		rows, pivots, _ := matrix.Reduce(5, one)
		outs = append(append(outs, rows...), pivots)
	}
	x, _, _ := matrix.Solve(5, unit(3), b)
	outs = append(outs, x)
	before := make([][]int, len(outs))
	for i := range outs {
		before[i] = slices.Clone(outs[i])
	}
	for i, l := range outs {
		sameLists(t, "lists that weren't written into", outs[i:], before[i:]...)
		l = l[:cap(l)] // what stands behind its end is the caller's, too
		for j := range l {
			l[j] = 77
		}
	}
	sameLists(t, "what was handed in", m, twin...)
	sameList(t, "what was handed in", flat, 1, 2, 3)
	sameList(t, "what was handed in", b, 1, 2, 3)
}
