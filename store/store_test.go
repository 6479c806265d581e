package store_test

import (
	"fmt"
	"math"
	"slices"
	"testing"

	"syndrome/api"
	"syndrome/field"
	"syndrome/hold"
	"syndrome/matrix"
	"syndrome/store"
)

var sizes = []int{2, 3, 4, 5, 7, 8, 9, 11, 13, 16, 17, 25, 27, 49, 61, 64}

// far: numbers that are of no field and no node.
var far = []int{-1, -2, 64, math.MinInt, math.MaxInt, 1 << 32}

// shape: what a plan is made of.
type shape struct{ q, n, k, d int }

// made: a plan of a shape that may be.
func made(t *testing.T, s shape) *store.Plan {
	t.Helper()
	p, e := store.New(s.q, s.n, s.k, s.d)
	hold.Same(t, fmt.Sprint("New ", s), e, api.OK)
	hold.Same(t, fmt.Sprint("a plan of ", s), p != nil, true)
	return p
}

// drawn: a shape that may be.
func drawn(d *hold.Draw) shape {
	q := sizes[d.Below(len(sizes))]
	n := 2 + d.Below(min(q, 16)-1)
	most := 1 + d.Below(n-1)
	return shape{q, n, 1 + d.Below(most), most}
}

// small: shapes of which all that nodes may have is soon gone through.
var small = []shape{
	{2, 2, 1, 1}, {3, 2, 1, 1}, {9, 5, 1, 1}, {3, 3, 1, 2}, {3, 3, 2, 2}, {4, 3, 2, 2}, {4, 4, 2, 2}, {5, 4, 2, 2}, {7, 7, 2, 2}, {8, 3, 2, 2}, {9, 9, 2, 2},
	{3, 3, 1, 2}, {4, 4, 1, 3}, {5, 5, 1, 4}, {4, 4, 2, 3},
}

// squareOf: by the words of D2, number by number.
func squareOf(s shape, file []int) [][]int {
	out := make([][]int, s.d)
	for i := range out {
		out[i] = make([]int, s.d)
	}
	whole := s.k * (s.k + 1) / 2
	for i := range s.k {
		for j := range s.d {
			at := whole + i*(s.d-s.k) + j - s.k
			if j < s.k {
				at = 0
				for row := range min(i, j) {
					at += s.k - row
				}
				at += max(i, j) - min(i, j)
			}
			out[i][j], out[j][i] = file[at], file[at]
		}
	}
	return out
}

// written: what a node has, by the words of D2.
func written(s shape, file []int, node int) []int {
	f, _ := field.New(s.q)
	out := make([]int, s.d)
	for i, row := range squareOf(s, file) {
		for j, v := range row {
			out[j] = f.Add(out[j], f.Mul(f.Pow(node, i), v))
		}
	}
	return out
}

// helped: (1, v, v^2, ..) times a list.
func helped(q int, list []int, v int) int {
	f, _ := field.New(q)
	out := 0
	for i, x := range list {
		out = f.Add(out, f.Mul(x, f.Pow(v, i)))
	}
	return out
}

// write: what all nodes have of a file that may be.
func write(t *testing.T, p *store.Plan, file []int) [][]int {
	t.Helper()
	all, e := p.Write(file)
	hold.Same(t, fmt.Sprint("the error of Write ", file), e, api.OK)
	return all
}

func TestD1New(t *testing.T) {
	for q := -2; q <= 70; q++ {
		_, noField := field.New(q)
		for n := -1; n <= 18; n++ {
			for k := -1; k <= 17; k++ {
				for d := -1; d <= 17; d++ {
					want := api.OK
					switch {
					case noField != api.OK:
						want = api.ErrField
					case n < 2 || n > 16 || n > q:
						want = api.ErrLimit
					case k < 1 || d < k || n <= d:
						want = api.ErrCount
					}
					p, e := store.New(q, n, k, d)
					if e != want || (p == nil) != (want != api.OK) {
						t.Fatalf("New(%d, %d, %d, %d) => %v, %v, want %v", q, n, k, d, p, e, want)
					}
				}
			}
		}
	}
}

func TestD1FarOff(t *testing.T) {
	for _, v := range far {
		for _, c := range []struct {
			s    shape
			want api.Errno
		}{
			{shape{v, 4, 2, 3}, api.ErrField}, {shape{7, v, 2, 3}, api.ErrLimit}, {shape{7, 4, v, 3}, api.ErrCount}, {shape{7, 4, 2, v}, api.ErrCount},
			{shape{6, v, v, v}, api.ErrField}, {shape{7, v, v, v}, api.ErrLimit}, {shape{7, 4, v, v}, api.ErrCount},
		} {
			if c.s.q == 64 {
				continue // there is such a field
			}
			p, e := store.New(c.s.q, c.s.n, c.s.k, c.s.d)
			hold.Same(t, fmt.Sprint("New ", c.s), e, c.want)
			hold.Same(t, "a plan beside an error", p == nil, true)
		}
	}
}

func TestD1Size(t *testing.T) {
	hold.Same(t, "Size", made(t, shape{5, 4, 2, 3}).Size(), 5)
	for n := 2; n <= 16; n++ {
		for d := 1; d < n; d++ {
			for k := 1; k <= d; k++ {
				want := 0 // pairs, the first of them below k, the second not below the first
				for i := range k {
					want += d - i
				}
				hold.Same(t, fmt.Sprint("Size of ", n, k, d), made(t, shape{64, n, k, d}).Size(), want)
			}
		}
	}
}

func TestD2Write(t *testing.T) {
	all := write(t, made(t, shape{5, 4, 2, 3}), []int{1, 2, 3, 4, 0})
	hold.Lists(t, "Write", all, []int{1, 2, 4}, []int{2, 0, 4}, []int{1, 3, 4}, []int{3, 1, 4})
	all = write(t, made(t, shape{7, 4, 2, 3}), []int{1, 2, 3, 4, 5}) // the square 1 2 4, 2 3 5, 4 5 0
	hold.Lists(t, "Write", all, []int{1, 2, 4}, []int{0, 3, 2}, []int{0, 0, 0}, []int{1, 0, 5})
	all = write(t, made(t, shape{5, 4, 1, 3}), []int{1, 2, 3}) // the square 1 2 3, 2 0 0, 3 0 0
	hold.Lists(t, "Write", all, []int{1, 2, 3}, []int{1, 2, 3}, []int{2, 2, 3}, []int{4, 2, 3})
	all = write(t, made(t, shape{2, 2, 1, 1}), []int{1})
	hold.Lists(t, "Write", all, []int{1}, []int{1})
	d := hold.Draw(1)
	for range 600 {
		s := drawn(&d)
		p := made(t, s)
		file := d.List(s.q, p.Size())
		all := write(t, p, file)
		hold.Same(t, fmt.Sprint("how many nodes of ", s), len(all), s.n)
		for node, got := range all {
			hold.List(t, fmt.Sprint("Write ", s, file, " at ", node), got, written(s, file, node)...)
		}
	}
}

func TestD2WriteErrors(t *testing.T) {
	s := shape{5, 4, 2, 3}
	p := made(t, s)
	keep := func(file []int, want api.Errno) {
		t.Helper()
		all, e := p.Write(file)
		hold.Same(t, fmt.Sprint("Write ", file), e, want)
		hold.Lists(t, "told beside an error", all)
	}
	for _, many := range []int{0, 1, 4, 6, 12, 99} {
		keep(make([]int, many), api.ErrCount)
		keep(slices.Repeat([]int{5}, many), api.ErrCount)
	}
	for at := range 5 {
		for _, v := range append([]int{5, 6}, far...) {
			file := []int{0, 1, 2, 3, 4}
			file[at] = v
			keep(file, api.ErrValue)
		}
	}
}

// read holds what Read tells against a file.
func read(t *testing.T, p *store.Plan, nodes []int, have [][]int, want ...int) {
	t.Helper()
	got, e := p.Read(nodes, have)
	hold.Same(t, fmt.Sprint("the error of Read ", nodes, have), e, api.OK)
	hold.List(t, fmt.Sprint("Read ", nodes, have), got, want...)
}

func TestD3AnyFewNodesHaveTheFile(t *testing.T) {
	read(t, made(t, shape{5, 4, 2, 3}), []int{3, 1}, [][]int{{3, 1, 4}, {2, 0, 4}}, 1, 2, 3, 4, 0)
	d := hold.Draw(2)
	for range 600 {
		s := drawn(&d)
		p := made(t, s)
		file := d.List(s.q, p.Size())
		all := write(t, p, file)
		for range 4 {
			nodes := d.Different(s.n, s.k)
			var have [][]int
			for _, node := range nodes {
				have = append(have, all[node])
			}
			read(t, p, nodes, have, file...)
		}
	}
}

// TestD3NoFile goes through all that nodes may have, and all files.
func TestD3NoFile(t *testing.T) {
	d := hold.Draw(3)
	failed := 0
	for _, s := range small {
		p := made(t, s)
		nodes := d.Different(s.n, s.k)
		files := map[string][]int{} // by what these nodes have of them
		for file := range hold.Each(s.q, p.Size()) {
			var have [][]int
			for _, node := range nodes {
				have = append(have, written(s, file, node))
			}
			files[fmt.Sprint(have)] = file
		}
		for flat := range hold.Each(s.q, s.k*s.d) {
			have := slices.Collect(slices.Chunk(flat, s.d))
			if file, ok := files[fmt.Sprint(have)]; ok {
				read(t, p, nodes, have, file...)
				continue
			}
			got, e := p.Read(nodes, have)
			hold.Same(t, fmt.Sprint("Read ", s, nodes, have), e, api.ErrFail)
			hold.List(t, "told beside an error", got)
			failed++
		}
	}
	hold.Same(t, "there is what no file makes", failed > 0, true)
}

// solved: the file by which nodes would have these numbers, by linear equations in its numbers; false: there is none.
func solved(s shape, size int, nodes []int, have [][]int) ([]int, bool) {
	rows := make([][]int, s.k*s.d)
	for at := range size {
		file := make([]int, size)
		file[at] = 1
		for i, node := range nodes {
			for j, v := range written(s, file, node) {
				rows[i*s.d+j] = append(rows[i*s.d+j], v)
			}
		}
	}
	file, ok, e := matrix.Solve(s.q, rows, slices.Concat(have...))
	return file, ok && e == api.OK
}

func TestD3OneNumberWrong(t *testing.T) {
	d := hold.Draw(4)
	told := map[bool]int{}
	for range 600 {
		s := drawn(&d)
		if s.k*s.d > api.MaxRows {
			continue
		}
		p := made(t, s)
		all := write(t, p, d.List(s.q, p.Size()))
		nodes := d.Different(s.n, s.k)
		var have [][]int
		for _, node := range nodes {
			have = append(have, all[node])
		}
		list, at := have[d.Below(s.k)], d.Below(s.d)
		list[at] = (list[at] + 1 + d.Below(s.q-1)) % s.q
		want, ok := solved(s, p.Size(), nodes, have)
		told[ok]++
		if ok {
			read(t, p, nodes, have, want...)
			continue
		}
		_, e := p.Read(nodes, have)
		hold.Same(t, fmt.Sprint("Read ", s, nodes, have), e, api.ErrFail)
	}
	hold.Same(t, "some of both", told[true] > 20 && told[false] > 20, true)
}

func TestD3ReadErrors(t *testing.T) {
	p := made(t, shape{5, 4, 2, 3})
	good, bad := []int{0, 0, 0}, []int{0, 0, 5}
	short, long := []int{0, 0}, []int{0, 0, 0, 0}
	for _, c := range []struct {
		nodes []int
		have  [][]int
		want  api.Errno
	}{
		{nil, nil, api.ErrCount}, {[]int{0}, [][]int{good}, api.ErrCount}, {[]int{0, 1, 2}, [][]int{good, good, good}, api.ErrCount},
		{[]int{9}, nil, api.ErrCount}, {[]int{1, 1, 1}, nil, api.ErrCount},
		{[]int{4, 0}, nil, api.ErrPlace}, {[]int{0, 4}, [][]int{good, good}, api.ErrPlace}, {[]int{-1, 0}, [][]int{good, good}, api.ErrPlace}, {[]int{4, 4}, [][]int{bad}, api.ErrPlace},
		{[]int{0, math.MaxInt}, nil, api.ErrPlace}, {[]int{math.MinInt, 0}, nil, api.ErrPlace}, {[]int{0, 1 << 32}, nil, api.ErrPlace},
		{[]int{2, 2}, nil, api.ErrTwice}, {[]int{0, 0}, [][]int{good, good}, api.ErrTwice}, {[]int{3, 3}, [][]int{short, bad}, api.ErrTwice},
		{[]int{0, 1}, nil, api.ErrCount}, {[]int{0, 1}, [][]int{good}, api.ErrCount}, {[]int{0, 1}, [][]int{good, good, good}, api.ErrCount}, {[]int{0, 1}, [][]int{bad}, api.ErrCount},
		{[]int{0, 1}, [][]int{bad, bad, bad}, api.ErrCount},
		{[]int{0, 1}, [][]int{short, good}, api.ErrCount}, {[]int{0, 1}, [][]int{good, long}, api.ErrCount}, {[]int{0, 1}, [][]int{nil, good}, api.ErrCount}, {[]int{0, 1}, [][]int{good, nil}, api.ErrCount},
		{[]int{0, 1}, [][]int{{5, 5}, good}, api.ErrCount}, {[]int{0, 1}, [][]int{short, bad}, api.ErrCount},
		{[]int{0, 1}, [][]int{bad, good}, api.ErrValue}, {[]int{0, 1}, [][]int{good, bad}, api.ErrValue}, {[]int{0, 1}, [][]int{bad, short}, api.ErrValue},
		{[]int{0, 1}, [][]int{{-1, 0, 0}, good}, api.ErrValue}, {[]int{0, 1}, [][]int{good, {0, math.MinInt, 0}}, api.ErrValue}, {[]int{0, 1}, [][]int{good, {0, math.MaxInt, 0}}, api.ErrValue},
		{[]int{0, 1}, [][]int{good, {1, 0, 0}}, api.ErrFail}, {[]int{0, 1}, [][]int{{0, 1, 0}, good}, api.ErrFail},
	} {
		got, e := p.Read(c.nodes, c.have)
		hold.Same(t, fmt.Sprint("Read ", c.nodes, c.have), e, c.want)
		hold.List(t, "told beside an error", got)
	}
	many := made(t, shape{16, 16, 15, 15})
	_, e := many.Read(append(hold.UpTo(14), 0), nil)
	hold.Same(t, "the first one again", e, api.ErrTwice)
	_, e = many.Read(append(hold.UpTo(14), 16), nil)
	hold.Same(t, "a number of the field is no node", e, api.ErrPlace)
	_, e = made(t, shape{64, 16, 2, 2}).Read([]int{15, 16}, nil)
	hold.Same(t, "an element is no node", e, api.ErrPlace)
}

func TestD4Help(t *testing.T) {
	p := made(t, shape{5, 4, 2, 3})
	for have, want := range map[[3]int]int{{2, 0, 4}: 2, {1, 3, 4}: 1, {3, 1, 4}: 3} {
		got, e := p.Help(have[:], 0)
		hold.Same(t, "the error of Help", e, api.OK)
		hold.Same(t, fmt.Sprint("Help ", have), got, want)
	}
	d := hold.Draw(5)
	for range 500 {
		s := drawn(&d)
		p := made(t, s)
		have := d.List(s.q, s.d)
		for lost := range s.n {
			got, e := p.Help(have, lost)
			hold.Same(t, fmt.Sprint("the error of Help ", s, have, lost), e, api.OK)
			hold.Same(t, fmt.Sprint("Help ", s, have, lost), got, helped(s.q, have, lost))
		}
	}
}

func TestD4HelpErrors(t *testing.T) {
	p := made(t, shape{5, 4, 2, 3})
	keep := func(have []int, lost int, want api.Errno) {
		t.Helper()
		got, e := p.Help(have, lost)
		hold.Same(t, fmt.Sprint("Help ", have, lost), e, want)
		hold.Same(t, "told beside an error", got, 0)
	}
	for _, lost := range append([]int{0, 4}, far...) {
		keep(nil, lost, api.ErrCount)
		keep([]int{1, 2}, lost, api.ErrCount)
		keep([]int{1, 2, 3, 4}, lost, api.ErrCount)
		keep([]int{5, 5}, lost, api.ErrCount)
		for _, v := range append([]int{5}, far...) {
			keep([]int{v, 0, 0}, lost, api.ErrValue)
			keep([]int{1, 1, v}, lost, api.ErrValue)
		}
		if lost != 0 {
			keep([]int{1, 2, 3}, lost, api.ErrPlace)
		}
	}
}

// mended holds what Mend tells against what a node had.
func mended(t *testing.T, p *store.Plan, lost int, nodes, helps []int, want ...int) {
	t.Helper()
	got, e := p.Mend(lost, nodes, helps)
	hold.Same(t, fmt.Sprint("the error of Mend ", lost, nodes, helps), e, api.OK)
	hold.List(t, fmt.Sprint("Mend ", lost, nodes, helps), got, want...)
}

// others: so many nodes but one.
func others(d *hold.Draw, s shape, lost int) []int {
	out := d.Different(s.n-1, s.d)
	for i, node := range out {
		if node >= lost {
			out[i]++
		}
	}
	return out
}

func TestD4EachIsMended(t *testing.T) {
	mended(t, made(t, shape{5, 4, 2, 3}), 0, []int{1, 2, 3}, []int{2, 1, 3}, 1, 2, 4)
	d := hold.Draw(6)
	for range 300 {
		s := drawn(&d)
		p := made(t, s)
		all := write(t, p, d.List(s.q, p.Size()))
		for lost := range s.n {
			nodes := others(&d, s, lost)
			var helps []int
			for _, node := range nodes {
				help, e := p.Help(all[node], lost)
				hold.Same(t, "the error of Help", e, api.OK)
				helps = append(helps, help)
			}
			mended(t, p, lost, nodes, helps, all[lost]...)
		}
	}
}

// TestD4MendByAnyHelps: also by those that no file makes.
func TestD4MendByAnyHelps(t *testing.T) {
	d := hold.Draw(7)
	for _, s := range append(small, shape{3, 3, 2, 2}, shape{5, 5, 3, 4}) {
		p := made(t, s)
		lost := d.Below(s.n)
		nodes := others(&d, s, lost)
		for x := range hold.Each(s.q, s.d) {
			helps := make([]int, s.d)
			for i, node := range nodes {
				helps[i] = helped(s.q, x, node)
			}
			mended(t, p, lost, nodes, helps, x...)
		}
	}
}

func TestD4MendErrors(t *testing.T) {
	p := made(t, shape{5, 4, 1, 2})
	keep := func(lost int, nodes, helps []int, want api.Errno) {
		t.Helper()
		got, e := p.Mend(lost, nodes, helps)
		hold.Same(t, fmt.Sprint("Mend ", lost, nodes, helps), e, want)
		hold.List(t, "told beside an error", got)
	}
	for _, v := range append([]int{4}, far...) {
		keep(v, nil, nil, api.ErrPlace)
		keep(v, []int{1, 2}, []int{0, 0}, api.ErrPlace)
		keep(v, []int{v, v}, []int{9}, api.ErrPlace)
		keep(0, []int{v, 1}, nil, api.ErrPlace)
		keep(0, []int{0, v}, nil, api.ErrPlace)
		keep(0, []int{v, v}, []int{1, 1}, api.ErrPlace)
		keep(0, []int{1, v}, []int{0, 9}, api.ErrPlace)
		keep(0, []int{v, 1, 1}, nil, api.ErrCount)
		keep(0, []int{v}, nil, api.ErrCount)
		if v != 4 {
			keep(0, []int{1, 2}, []int{0, v}, api.ErrValue)
			keep(0, []int{1, 2}, []int{v, 0}, api.ErrValue)
			keep(0, []int{1, 2}, []int{v, v, v}, api.ErrCount)
		}
	}
	keep(0, nil, nil, api.ErrCount)
	keep(0, []int{1}, []int{0}, api.ErrCount)
	keep(0, []int{1, 2, 3}, []int{0, 0, 0}, api.ErrCount)
	keep(0, []int{0, 0, 0}, nil, api.ErrCount)
	keep(0, []int{1, 1}, []int{0, 0}, api.ErrTwice)
	keep(0, []int{3, 3}, nil, api.ErrTwice)
	keep(0, []int{0, 1}, []int{0, 0}, api.ErrTwice)
	keep(3, []int{1, 3}, nil, api.ErrTwice)
	keep(3, []int{1, 3}, []int{9, 9}, api.ErrTwice)
	keep(0, []int{1, 2}, nil, api.ErrCount)
	keep(0, []int{1, 2}, []int{0}, api.ErrCount)
	keep(0, []int{1, 2}, []int{0, 0, 0}, api.ErrCount)
	keep(0, []int{1, 2}, []int{5, 0}, api.ErrValue)
}

func TestPlansStayAsTheyWere(t *testing.T) {
	one, two := made(t, shape{5, 4, 2, 3}), made(t, shape{64, 16, 3, 9})
	file := []int{1, 2, 3, 4, 0}
	before := write(t, one, file)
	one.Write([]int{9})
	one.Read([]int{0, 1}, [][]int{{0, 0, 0}, {1, 0, 0}})
	one.Read([]int{0, 0}, nil)
	one.Help(nil, 7)
	one.Mend(0, []int{1, 2, 3}, []int{1, 1, 9})
	write(t, two, make([]int, two.Size()))
	hold.Same(t, "Size", one.Size(), 5)
	hold.Lists(t, "Write, once more", write(t, one, file), before...)
	read(t, one, []int{3, 1}, [][]int{before[3], before[1]}, file...)
}

func TestListsAreTheCallers(t *testing.T) {
	var handed hold.Handed
	p := made(t, shape{5, 4, 2, 3})
	file, nodes := handed.List(1, 2, 3, 4, 0), handed.List(3, 1)
	have := [][]int{handed.List(3, 1, 4), handed.List(2, 0, 4)}
	three, helps := handed.List(1, 2, 3), handed.List(2, 1, 3)
	var out [][]int
	for range 2 {
		all := write(t, p, file)
		told, e := p.Read(nodes, have)
		hold.Same(t, "the error of Read", e, api.OK)
		help, _ := p.Help(have[0], 0)
		hold.Same(t, "Help", help, 3)
		mended, e := p.Mend(0, three, helps)
		hold.Same(t, "the error of Mend", e, api.OK)
		out = append(append(out, all...), told, mended)
	}
	handed.Apart(t, out...)
}
