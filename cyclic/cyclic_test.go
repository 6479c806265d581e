package cyclic_test

import (
	"fmt"
	"math"
	"slices"
	"testing"

	"syndrome/api"
	"syndrome/code"
	"syndrome/cyclic"
	"syndrome/field"
	"syndrome/hold"
	"syndrome/poly"
)

var sizes = []int{2, 3, 4, 5, 7, 8, 9, 11, 13, 16, 25, 27, 32, 49, 61, 64}

// closed: which numbers stand in a list with one of these, asked of all other numbers one by one.
func closed(q, n int, zeros []int) []int {
	var out []int
	for k := range n {
		for at, i := k, 0; i < n; i++ {
			if slices.Contains(zeros, at) {
				out = append(out, k)
				break
			}
			at = at * q % n
		}
	}
	return out
}

// char: the characteristic of a field.
func char(q int) int {
	f, _ := field.New(q)
	return f.Char()
}

// size of the least field over q that has roots of such a length; 0: there is none.
func size(q, n int) int {
	for s := q; s <= api.MaxQ; s *= q {
		if s%n == 1%n {
			return s
		}
	}
	return 0
}

func noCode(t *testing.T, what string, got api.Code) {
	t.Helper()
	if got.Q != 0 || got.N != 0 || len(got.Rows) != 0 {
		t.Fatalf("%s => %v beside an error", what, got)
	}
}

// checks: of what sizes and lengths there are lists.
var checks = []struct {
	q, n int
	want api.Errno
}{
	{2, 1, api.OK}, {2, 63, api.OK}, {3, 64, api.OK}, {64, 63, api.OK}, {9, 10, api.OK},
	{2, 8, api.ErrForm}, {2, 64, api.ErrForm}, {9, 3, api.ErrForm}, {9, 63, api.ErrForm}, {25, 5, api.ErrForm}, {61, 61, api.ErrForm},
	{2, 0, api.ErrLimit}, {2, -1, api.ErrLimit}, {2, 65, api.ErrLimit}, {2, 66, api.ErrLimit}, {2, math.MaxInt, api.ErrLimit}, {3, math.MinInt, api.ErrLimit},
	{6, 0, api.ErrField}, {6, 6, api.ErrField}, {1, 1, api.ErrField}, {0, 7, api.ErrField}, {-2, 7, api.ErrField}, {65, 7, api.ErrField}, {math.MaxInt, 7, api.ErrField},
}

func TestY1Cosets(t *testing.T) {
	for _, q := range sizes {
		for n := 1; n <= api.MaxLength; n++ {
			if n%char(q) == 0 {
				continue
			}
			got, e := cyclic.Cosets(q, n)
			hold.Same(t, "the error of Cosets", e, api.OK)
			var want [][]int
			for k := range n {
				if list := closed(q, n, []int{k}); list[0] == k {
					want = append(want, list)
				}
			}
			hold.Lists(t, fmt.Sprint("Cosets ", q, n), got, want...)
		}
	}
	got, _ := cyclic.Cosets(2, 7)
	hold.Lists(t, "Cosets 2 7", got, []int{0}, []int{1, 2, 4}, []int{3, 5, 6})
	got, _ = cyclic.Cosets(4, 15)
	hold.Lists(t, "Cosets 4 15", got, []int{0}, []int{1, 4}, []int{2, 8}, []int{3, 12}, []int{5}, []int{6, 9}, []int{7, 13}, []int{10}, []int{11, 14})
	got, _ = cyclic.Cosets(64, 1)
	hold.Lists(t, "Cosets 64 1", got, []int{0})
}

func TestY1Errors(t *testing.T) {
	for _, c := range checks {
		got, e := cyclic.Cosets(c.q, c.n)
		hold.Same(t, fmt.Sprint("Cosets ", c.q, c.n), e, c.want)
		if e != api.OK {
			hold.Lists(t, "what is told beside an error", got)
		}
	}
}

// isGenerator: is a polynomial over q, seen in the greater field, 0 at just these powers of the root?
func isGenerator(t *testing.T, q, n int, g, powers []int) {
	t.Helper()
	what := fmt.Sprint("Generator ", q, n, powers, " => ", g)
	greater, _ := field.New(size(q, n))
	there, _ := field.Embed(q, greater.Size())
	seen := make([]int, len(g))
	for i, v := range g {
		if v < 0 || v >= q {
			t.Fatalf("%s: %d is no element", what, v)
		}
		seen[i] = there[v]
	}
	hold.Same(t, "the degree of "+what, len(g)-1, len(powers))
	hold.Same(t, "the end of "+what, g[len(g)-1], 1)
	root := greater.Pow(greater.Gen(), (greater.Size()-1)/n)
	for k := range n {
		v, _ := poly.At(greater.Size(), seen, greater.Pow(root, k))
		hold.Same(t, fmt.Sprint(what, " is 0 at ", k), v == 0, slices.Contains(powers, k))
	}
}

func TestY2Generator(t *testing.T) {
	d := hold.Draw(2)
	for _, q := range sizes {
		for n := 1; n <= api.MaxLength; n++ {
			if n%char(q) == 0 || size(q, n) == 0 {
				continue
			}
			for _, zeros := range [][]int{nil, d.List(n, 1), d.List(n, 2), d.List(n, 1+d.Below(n)), d.List(n, api.MaxLength)} {
				g, e := cyclic.Generator(q, n, zeros)
				hold.Same(t, fmt.Sprint("the error of Generator ", q, n, zeros), e, api.OK)
				isGenerator(t, q, n, g, closed(q, n, zeros))
			}
		}
	}
}

func TestY2Answers(t *testing.T) {
	for _, c := range []struct {
		q, n        int
		zeros, want []int
	}{
		{2, 15, []int{1, 3}, []int{1, 0, 0, 0, 1, 0, 1, 1, 1}}, {2, 15, []int{9, 8, 9, 1}, []int{1, 0, 0, 0, 1, 0, 1, 1, 1}},
		{4, 15, []int{1}, []int{2, 1, 1}}, {2, 7, []int{1}, []int{1, 1, 0, 1}}, {2, 7, []int{3}, []int{1, 0, 1, 1}},
		{2, 7, nil, []int{1}}, {3, 8, []int{0}, []int{2, 1}}, {7, 1, []int{0}, []int{6, 1}}, {7, 1, nil, []int{1}},
		{2, 3, []int{0, 1}, []int{1, 0, 0, 1}}, {3, 4, []int{0, 1, 2}, []int{2, 0, 0, 0, 1}}, {5, 4, []int{1}, []int{3, 1}},
	} {
		got, e := cyclic.Generator(c.q, c.n, c.zeros)
		hold.Same(t, fmt.Sprint("Generator ", c.q, c.n, c.zeros), e, api.OK)
		hold.List(t, fmt.Sprint("Generator ", c.q, c.n, c.zeros), got, c.want...)
	}
}

// TestY2Bound asks of each m, from and step whether all of these stand there.
func TestY2Bound(t *testing.T) {
	d := hold.Draw(7)
	for range 600 {
		q, n := sizes[d.Below(len(sizes))], 1+d.Below(24)
		if n%char(q) == 0 {
			continue
		}
		zeros := d.List(n, d.Below(n+1))
		all := closed(q, n, zeros)
		most := 0
		for m := 1; m <= n; m++ {
			if stands(n, m, all) {
				most = m
			}
		}
		got, e := cyclic.Bound(q, n, zeros)
		hold.Same(t, fmt.Sprint("Bound ", q, n, zeros), got, most+1)
		hold.Same(t, "its error", e, api.OK)
	}
}

// stands: are there a from and a step by which m numbers in a row all stand in a list?
func stands(n, m int, all []int) bool {
	for from := range n {
		for step := 1; step <= n; step++ {
			if meet(step, n) {
				continue
			}
			many := 0
			for i := range m {
				if slices.Contains(all, (from+i*step)%n) {
					many++
				}
			}
			if many == m {
				return true
			}
		}
	}
	return false
}

// meet: have two numbers a common divisor?
func meet(a, b int) bool {
	for d := 2; d <= a; d++ {
		if a%d == 0 && b%d == 0 {
			return true
		}
	}
	return false
}

func TestY2BoundAnswers(t *testing.T) {
	all := func(n int) []int {
		out := make([]int, n)
		for k := range out {
			out[k] = k
		}
		return out
	}
	for _, c := range []struct {
		q, n  int
		zeros []int
		want  int
	}{
		{2, 15, []int{1, 3}, 5}, {2, 15, nil, 1}, {2, 15, []int{0}, 2}, {2, 15, all(15), 16}, {3, 1, nil, 1}, {3, 1, []int{0}, 2},
		{2, 7, []int{3}, 3},                           // 3 5 6: by 1 and by 2 two in a row
		{2, 9, []int{3, 0}, 2},                        // 0 3 6: in a row by 3 only, which divides 9
		{7, 6, []int{1, 3, 5}, 2},                     // by 2 only, which divides 6
		{11, 10, []int{1, 4, 7}, 4},                   // by 3
		{11, 10, []int{0, 1, 9}, 4},                   // round the end
		{2, 23, []int{1}, 5}, {2, 17, []int{0, 1}, 6}, // no field has such roots; that is not asked here
		{3, 64, []int{0}, 2}, {64, 63, all(63), 64},
	} {
		got, e := cyclic.Bound(c.q, c.n, c.zeros)
		hold.Same(t, fmt.Sprint("Bound ", c.q, c.n, c.zeros), got, c.want)
		hold.Same(t, "its error", e, api.OK)
	}
}

// TestY2BoundHolds: words of the code with these zeros are at least so far apart.
func TestY2BoundHolds(t *testing.T) {
	d := hold.Draw(4)
	asked := 0
	for range 600 {
		q, n := sizes[d.Below(8)], 1+d.Below(21)
		if n%char(q) == 0 || size(q, n) == 0 {
			continue
		}
		zeros := d.List(n, d.Below(n))
		g, _ := cyclic.Generator(q, n, zeros)
		c, _ := cyclic.Of(q, n, g)
		apart, e := code.Distance(c)
		if e != api.OK || apart == 0 {
			continue
		}
		asked++
		if least, _ := cyclic.Bound(q, n, zeros); apart < least {
			t.Fatalf("%v: its distance is %d, but Bound %d %d %v => %d", c, apart, q, n, zeros, least)
		}
	}
	if asked < 50 {
		t.Fatalf("but %d codes were asked", asked)
	}
}

func TestY2Errors(t *testing.T) {
	tooMany := make([]int, api.MaxLength+1)
	alsoOut := append(slices.Clone(tooMany), -1)
	for _, c := range []struct {
		q, n             int
		zeros            []int
		generator, bound api.Errno
	}{
		{2, 15, []int{15}, api.ErrPlace, api.ErrPlace}, {2, 15, []int{1, -1}, api.ErrPlace, api.ErrPlace}, {2, 15, []int{math.MaxInt}, api.ErrPlace, api.ErrPlace},
		{2, 15, []int{math.MinInt, 1}, api.ErrPlace, api.ErrPlace}, {2, 15, tooMany, api.ErrLimit, api.ErrLimit}, {2, 15, alsoOut, api.ErrLimit, api.ErrLimit},
		{2, 15, tooMany[1:], api.OK, api.OK}, {2, 23, []int{23}, api.ErrPlace, api.ErrPlace}, {2, 23, []int{1}, api.ErrLimit, api.OK}, {2, 23, nil, api.ErrLimit, api.OK},
		{3, 64, nil, api.ErrLimit, api.OK}, {11, 60, nil, api.ErrLimit, api.OK}, {9, 16, []int{1}, api.ErrLimit, api.OK}, {3, 13, []int{1}, api.OK, api.OK}, {8, 9, []int{1}, api.OK, api.OK},
		{9, 13, []int{1}, api.ErrLimit, api.OK}, // the field of 27 is none of 9, 81, ..
	} {
		g, e := cyclic.Generator(c.q, c.n, c.zeros)
		hold.Same(t, fmt.Sprint("Generator ", c.q, c.n, c.zeros), e, c.generator)
		if e != api.OK {
			hold.List(t, "what is told beside an error", g)
		}
		b, e := cyclic.Bound(c.q, c.n, c.zeros)
		hold.Same(t, fmt.Sprint("Bound ", c.q, c.n, c.zeros), e, c.bound)
		if e != api.OK {
			hold.Same(t, "what is told beside an error", b, 0)
		}
	}
	for _, c := range checks {
		if c.want == api.OK {
			continue
		}
		for _, zeros := range [][]int{nil, {-1}, tooMany} {
			g, e := cyclic.Generator(c.q, c.n, zeros)
			hold.Same(t, fmt.Sprint("Generator ", c.q, c.n, zeros), e, c.want)
			hold.List(t, "what is told beside an error", g)
			b, e := cyclic.Bound(c.q, c.n, zeros)
			hold.Same(t, fmt.Sprint("Bound ", c.q, c.n, zeros), e, c.want)
			hold.Same(t, "what is told beside an error", b, 0)
		}
	}
}

// isOf: are the words of a code just the polynomials of n coefficients that g divides?
func isOf(t *testing.T, c api.Code, g []int) {
	t.Helper()
	for word := range hold.Each(c.Q, c.N) {
		_, rest, _ := poly.Div(c.Q, word, g)
		has, e := code.Has(c, word)
		hold.Same(t, "the error of Has", e, api.OK)
		hold.Same(t, fmt.Sprint("Has ", c, word), has, len(rest) == 0)
	}
}

// TestY3Of: of each polynomial of few coefficients.
func TestY3Of(t *testing.T) {
	for _, c := range [][2]int{{2, 1}, {2, 4}, {2, 6}, {2, 7}, {3, 3}, {3, 4}, {4, 3}, {5, 3}, {7, 2}, {8, 1}} {
		q, n := c[0], c[1]
		f, _ := field.New(q)
		whole := make([]int, n+1)
		whole[0], whole[n] = f.Neg(1), 1
		for g := range hold.Each(q, min(n+2, 6)) {
			got, e := cyclic.Of(q, n, g)
			_, rest, wrong := poly.Div(q, whole, g)
			switch {
			case wrong != api.OK:
				hold.Same(t, fmt.Sprint("Of ", q, n, g), e, api.ErrZero)
				noCode(t, "Of", got)
			case len(rest) > 0:
				hold.Same(t, fmt.Sprint("Of ", q, n, g), e, api.ErrForm)
				noCode(t, "Of", got)
			default:
				hold.Same(t, fmt.Sprint("Of ", q, n, g), e, api.OK)
				hold.Same(t, "its length", [2]int{got.Q, got.N}, c)
				made, _ := code.Make(got)
				hold.Lists(t, "its one form", got.Rows, made.Rows...)
				isOf(t, got, g)
			}
		}
	}
}

func TestY3Answers(t *testing.T) {
	for _, c := range []struct {
		q, n int
		g    []int
		rows [][]int
	}{
		{2, 7, []int{1, 1, 0, 1}, [][]int{{1, 0, 0, 0, 1, 1, 0}, {0, 1, 0, 0, 0, 1, 1}, {0, 0, 1, 0, 1, 1, 1}, {0, 0, 0, 1, 1, 0, 1}}},
		{2, 7, []int{1, 1, 0, 1, 0, 0, 0, 0, 0, 0, 0}, [][]int{{1, 0, 0, 0, 1, 1, 0}, {0, 1, 0, 0, 0, 1, 1}, {0, 0, 1, 0, 1, 1, 1}, {0, 0, 0, 1, 1, 0, 1}}},
		{3, 2, []int{1, 0, 2}, nil}, {3, 2, []int{2}, [][]int{{1, 0}, {0, 1}}}, {5, 1, []int{3}, [][]int{{1}}}, {5, 1, []int{4, 1}, nil},
		{2, 4, []int{1, 0, 1}, [][]int{{1, 0, 1, 0}, {0, 1, 0, 1}}}, {3, 3, []int{1, 1, 1}, [][]int{{1, 1, 1}}}, {3, 3, []int{1, 2, 0}, [][]int{{1, 0, 2}, {0, 1, 2}}},
	} {
		got, e := cyclic.Of(c.q, c.n, c.g)
		hold.Same(t, fmt.Sprint("Of ", c.q, c.n, c.g), e, api.OK)
		hold.Code(t, fmt.Sprint("Of ", c.q, c.n, c.g), got, api.Code{Q: c.q, N: c.n, Rows: c.rows})
	}
	for n := 1; n <= api.MaxLength; n++ {
		got, e := cyclic.Of(64, n, []int{1, 1})
		hold.Same(t, "the error of Of 64", e, api.OK)
		hold.Same(t, fmt.Sprint("the dimension of Of 64 ", n), len(got.Rows), n-1)
	}
}

// TestY3Turned: such a code stays when its words are turned.
func TestY3Turned(t *testing.T) {
	g, _ := cyclic.Generator(4, 21, []int{1, 5, 9})
	c, _ := cyclic.Of(4, 21, g)
	for _, row := range c.Rows {
		turned := slices.Concat(row[20:], row[:20])
		has, e := code.Has(c, turned)
		hold.Same(t, fmt.Sprint("Has ", turned), has && e == api.OK, true)
	}
}

func TestY3Errors(t *testing.T) {
	long := make([]int, api.MaxCoefs+1)
	for _, c := range []struct {
		q, n int
		g    []int
		want api.Errno
	}{
		{6, 0, nil, api.ErrField}, {6, 7, []int{1, 1}, api.ErrField}, {0, 7, long, api.ErrField}, {2, 7, long, api.ErrLimit},
		{2, 7, []int{2, 1}, api.ErrValue}, {2, 0, []int{1, -1}, api.ErrValue}, {2, 65, []int{2}, api.ErrValue}, {2, 0, []int{1, 1}, api.ErrLimit},
		{2, -1, []int{1}, api.ErrLimit}, {2, 65, []int{1}, api.ErrLimit}, {2, 65, nil, api.ErrLimit}, {2, math.MaxInt, []int{1}, api.ErrLimit}, {2, math.MinInt, nil, api.ErrLimit},
		{2, 7, nil, api.ErrZero}, {2, 7, []int{0, 0}, api.ErrZero}, {2, 7, long[1:], api.ErrZero}, {2, 7, []int{1, 1, 1}, api.ErrForm}, {2, 7, []int{0, 1}, api.ErrForm},
		{2, 1, []int{1, 0, 1}, api.ErrForm}, {3, 2, []int{1, 0, 1}, api.ErrForm}, {2, 64, append(long[:127:127], 1), api.ErrForm},
	} {
		got, e := cyclic.Of(c.q, c.n, c.g)
		hold.Same(t, fmt.Sprint("Of ", c.q, c.n, c.g), e, c.want)
		noCode(t, "Of", got)
	}
}

func TestY4BCH(t *testing.T) {
	for _, q := range []int{2, 3, 4, 5, 8, 9, 16} {
		for _, n := range []int{1, 3, 4, 5, 7, 8, 9, 13, 15, 21, 24, 31} {
			if n%char(q) == 0 || size(q, n) == 0 {
				continue
			}
			for from := range n {
				for many := range n {
					zeros := make([]int, many)
					for i := range zeros {
						zeros[i] = (from + i) % n
					}
					g, _ := cyclic.Generator(q, n, zeros)
					want, _ := cyclic.Of(q, n, g)
					got, e := cyclic.BCH(q, n, from, many)
					hold.Same(t, fmt.Sprint("BCH ", q, n, from, many), e, api.OK)
					hold.Code(t, fmt.Sprint("BCH ", q, n, from, many), got, want)
				}
			}
		}
	}
	c, _ := cyclic.BCH(2, 15, 1, 4)
	hold.Same(t, "BCH 2 15 1 4", [3]int{c.Q, c.N, len(c.Rows)}, [3]int{2, 15, 7})
	apart, _ := code.Distance(c)
	hold.Same(t, "its distance", apart, 5)
}

func TestY4BCHErrors(t *testing.T) {
	for _, c := range []struct {
		q, n, from, many int
		want             api.Errno
	}{
		{2, 15, 15, 0, api.ErrPlace}, {2, 15, -1, 15, api.ErrPlace}, {2, 15, math.MaxInt, math.MaxInt, api.ErrPlace}, {2, 15, math.MinInt, 1, api.ErrPlace},
		{2, 15, 0, 15, api.ErrCount}, {2, 15, 14, -1, api.ErrCount}, {2, 15, 0, math.MaxInt, api.ErrCount}, {2, 15, 0, math.MinInt, api.ErrCount}, {2, 1, 0, 1, api.ErrCount},
		{2, 23, 23, 0, api.ErrPlace}, {2, 23, 0, 23, api.ErrCount}, {2, 23, 1, 4, api.ErrLimit}, {2, 23, 1, 0, api.ErrLimit}, {2, 8, 1, 2, api.ErrForm},
		{2, 15, 0, 14, api.OK}, {2, 15, 14, 14, api.OK}, {2, 1, 0, 0, api.OK},
	} {
		got, e := cyclic.BCH(c.q, c.n, c.from, c.many)
		hold.Same(t, fmt.Sprint("BCH ", c.q, c.n, c.from, c.many), e, c.want)
		if e != api.OK {
			noCode(t, "BCH", got)
		}
	}
	for _, c := range checks {
		if c.want != api.OK {
			got, e := cyclic.BCH(c.q, c.n, -1, -1)
			hold.Same(t, fmt.Sprint("BCH ", c.q, c.n), e, c.want)
			noCode(t, "BCH", got)
		}
	}
}

func TestY4Squares(t *testing.T) {
	for n := -2; n <= 70; n++ {
		want := api.ErrForm
		switch {
		case n < 3 || n > 64:
			want = api.ErrLimit
		case n == 7 || n == 31:
			want = api.OK
		case slices.Contains([]int{17, 23, 41, 47}, n): // no field of up to 64 has such roots
			want = api.ErrLimit
		}
		got, e := cyclic.Squares(n)
		hold.Same(t, fmt.Sprint("Squares ", n), e, want)
		if e != api.OK {
			noCode(t, "Squares", got)
		}
	}
	for _, n := range []int{math.MinInt, math.MaxInt} {
		got, e := cyclic.Squares(n)
		hold.Same(t, "Squares of no length", e, api.ErrLimit)
		noCode(t, "Squares", got)
	}
}

func TestY4SquaresAnswers(t *testing.T) {
	seven, _ := cyclic.Squares(7)
	want, _ := cyclic.Of(2, 7, []int{1, 1, 0, 1})
	hold.Code(t, "Squares 7", seven, want)
	g, _ := cyclic.Generator(2, 31, []int{1, 5, 7})
	long, _ := cyclic.Squares(31)
	want, _ = cyclic.Of(2, 31, g)
	hold.Code(t, "Squares 31", long, want)
	hold.Same(t, "its dimension", len(long.Rows), 16)
}

func TestListsAreTheCallers(t *testing.T) {
	zeros := append(make([]int, 0, 9), 1, 3)
	g, _ := cyclic.Generator(2, 15, zeros)
	cyclic.Bound(2, 15, zeros)
	again, _ := cyclic.Generator(2, 15, zeros)
	c, _ := cyclic.Of(2, 15, g)
	d, _ := cyclic.Of(2, 15, g)
	lists, _ := cyclic.Cosets(2, 15)
	bch, _ := cyclic.BCH(2, 15, 1, 4)
	squares, _ := cyclic.Squares(7)
	hold.List(t, "what was handed in", zeros, 1, 3)
	hold.List(t, "what was handed in", g, 1, 0, 0, 0, 1, 0, 1, 1, 1)
	hold.Apart(t, slices.Concat([][]int{zeros, g, again}, c.Rows, d.Rows, lists, bch.Rows, squares.Rows)...)
}
