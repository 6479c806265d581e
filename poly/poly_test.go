package poly_test

import (
	"cmp"
	"math"
	"slices"
	"testing"

	"syndrome/api"
	"syndrome/field"
	"syndrome/hold"
	"syndrome/poly"
)

var sizes = []int{2, 3, 4, 5, 7, 8, 9, 16, 25, 27, 49, 61, 64}

// plain: a list without noughts at its end.
func plain(a []int) []int {
	for len(a) > 0 && a[len(a)-1] == 0 {
		a = a[:len(a)-1]
	}
	return a
}

// ones: so many of them, and as many noughts behind.
func ones(many, noughts int) []int {
	return append(slices.Repeat([]int{1}, many), make([]int, noughts)...)
}

// sum is a + b c, coefficient by coefficient, by the schoolbook.
func sum(t *testing.T, q int, a, b, c []int) []int {
	t.Helper()
	f, e := field.New(q)
	hold.Same(t, "New", e, api.OK)
	out := make([]int, len(a)+len(b)+len(c))
	copy(out, a)
	for i := range b {
		for j := range c {
			out[i+j] = f.Add(out[i+j], f.Mul(b[i], c[j]))
		}
	}
	return plain(out)
}

// says: what each call says of two lists.
func says(q int, a, b []int) map[string]api.Errno {
	out := map[string]api.Errno{}
	_, out["Add"] = poly.Add(q, a, b)
	_, out["Mul"] = poly.Mul(q, a, b)
	_, _, out["Div"] = poly.Div(q, a, b)
	_, out["Gcd"] = poly.Gcd(q, a, b)
	_, out["Through"] = poly.Through(q, a, b)
	return out
}

func TestP1Check(t *testing.T) {
	long := ones(api.MaxCoefs+1, 0)
	for _, c := range []struct {
		q    int
		a    []int
		want api.Errno
	}{
		{2, nil, api.OK}, {2, []int{}, api.OK}, {2, []int{0, 0, 0}, api.OK}, {64, []int{63, 0}, api.OK},
		{6, nil, api.ErrField}, {1, []int{9}, api.ErrField}, {math.MaxInt, long, api.ErrField}, {math.MinInt, nil, api.ErrField},
		{2, long, api.ErrLimit}, {2, make([]int, api.MaxCoefs+1), api.ErrLimit}, {2, append([]int{7}, long...), api.ErrLimit},
		{2, ones(api.MaxCoefs, 0), api.OK}, {2, ones(1, api.MaxCoefs-1), api.OK},
		{2, []int{0, 2}, api.ErrValue}, {5, []int{-1}, api.ErrValue}, {5, []int{5}, api.ErrValue},
		{64, []int{0, math.MaxInt}, api.ErrValue}, {64, []int{math.MinInt}, api.ErrValue},
	} {
		hold.Same(t, "Check", poly.Check(c.q, c.a), c.want)
	}
}

func TestP1AllCallsCheckInOrder(t *testing.T) {
	long, wrong, good := ones(api.MaxCoefs+1, 0), []int{0, 9}, []int{1, 2}
	for _, c := range []struct {
		q    int
		a, b []int
		want api.Errno
	}{
		{6, long, wrong, api.ErrField}, {5, long, good, api.ErrLimit}, {5, good, long, api.ErrLimit},
		{5, wrong, long, api.ErrValue}, {5, long, wrong, api.ErrLimit}, {5, good, wrong, api.ErrValue}, {5, wrong, good, api.ErrValue},
		{5, nil, wrong, api.ErrValue}, {5, wrong, nil, api.ErrValue}, {5, wrong, []int{1}, api.ErrValue},
	} {
		for name, e := range says(c.q, c.a, c.b) {
			hold.Same(t, name, e, c.want)
		}
	}
	for _, c := range []struct {
		q, x int
		a    []int
		want api.Errno
	}{
		{6, 0, good, api.ErrField}, {5, 9, long, api.ErrLimit}, {5, 1, wrong, api.ErrValue},
		{5, 5, good, api.ErrValue}, {5, -1, good, api.ErrValue}, {5, 5, nil, api.ErrValue}, {5, 4, good, api.OK},
	} {
		_, e := poly.At(c.q, c.a, c.x)
		hold.Same(t, "At", e, c.want)
	}
	for _, c := range []struct {
		q    int
		a    []int
		want api.Errno
	}{{6, nil, api.ErrField}, {5, long, api.ErrLimit}, {5, wrong, api.ErrValue}, {5, nil, api.ErrZero}, {5, []int{0, 0}, api.ErrZero}} {
		roots, e := poly.Roots(c.q, c.a)
		hold.Same(t, "Roots", e, c.want)
		factors, e := poly.Factors(c.q, c.a)
		hold.Same(t, "Factors", e, c.want)
		ok, e := poly.Irreducible(c.q, c.a)
		hold.Same(t, "Irreducible", e, c.want)
		hold.Same(t, "nothing beside an error", len(roots) == 0 && len(factors) == 0 && !ok, true)
	}
}

func TestP2NothingBesideAnError(t *testing.T) {
	for _, c := range []struct{ a, b []int }{{[]int{9}, []int{1}}, {[]int{1}, []int{9}}, {ones(99, 0), ones(99, 0)}, {[]int{3, 4}, nil}} {
		for _, call := range []func(int, []int, []int) ([]int, api.Errno){poly.Add, poly.Mul, poly.Gcd, poly.Through} {
			if l, e := call(5, c.a, c.b); e != api.OK && len(l) != 0 {
				t.Errorf("%v, %v => %v beside error %d", c.a, c.b, l, e)
			}
		}
		if quot, rest, e := poly.Div(5, c.a, c.b); e != api.OK && len(quot)+len(rest) != 0 {
			t.Errorf("Div => %v, %v beside error %d", quot, rest, e)
		}
		if v, e := poly.At(5, c.a, 5); v != 0 || e == api.OK {
			t.Errorf("At => %d, %d", v, e)
		}
	}
}

func TestP2SumsAndProducts(t *testing.T) {
	d := hold.Draw(1)
	for _, q := range sizes {
		for range 60 {
			a, b := d.List(q, d.Below(9)), d.List(q, d.Below(9))
			got, e := poly.Add(q, a, b)
			hold.Same(t, "Add's error", e, api.OK)
			hold.List(t, "Add", got, sum(t, q, a, b, []int{1})...)
			got, e = poly.Mul(q, a, b)
			hold.Same(t, "Mul's error", e, api.OK)
			hold.List(t, "Mul", got, sum(t, q, nil, a, b)...)
		}
	}
	got, _ := poly.Add(2, []int{1, 1}, []int{0, 1, 0})
	hold.List(t, "noughts at the end", got, 1)
	got, _ = poly.Add(2, []int{1, 1}, []int{1, 1})
	hold.List(t, "nothing left", got)
}

func TestP2ProductLimit(t *testing.T) {
	for _, c := range []struct {
		a, b []int
		want api.Errno
		many int
	}{
		{ones(64, 0), ones(65, 0), api.OK, 128}, {ones(65, 0), ones(65, 0), api.ErrLimit, 0},
		{ones(128, 0), ones(1, 127), api.OK, 128}, {ones(128, 0), make([]int, 128), api.OK, 0}, {make([]int, 128), ones(128, 0), api.OK, 0},
		{ones(64, 64), ones(65, 63), api.OK, 128}, {ones(128, 0), ones(2, 0), api.ErrLimit, 0},
	} {
		got, e := poly.Mul(3, c.a, c.b)
		hold.Same(t, "Mul's error", e, c.want)
		hold.Same(t, "how many there are", len(got), c.many)
	}
}

func TestP2Div(t *testing.T) {
	d := hold.Draw(2)
	for _, q := range sizes {
		for range 80 {
			a, b := d.List(q, d.Below(10)), d.List(q, d.Below(7))
			quot, rest, e := poly.Div(q, a, b)
			if len(plain(b)) == 0 {
				hold.Same(t, "Div by 0", e, api.ErrZero)
				continue
			}
			hold.Same(t, "Div's error", e, api.OK)
			hold.List(t, "quot b + rest", sum(t, q, rest, quot, b), plain(a)...)
			hold.Same(t, "rest has fewer", len(rest) < len(plain(b)), true)
			hold.List(t, "quot without noughts", quot, plain(quot)...)
			hold.List(t, "rest without noughts", rest, plain(rest)...)
		}
	}
	for _, zero := range [][]int{nil, {}, {0}, {0, 0, 0}} {
		_, _, e := poly.Div(7, []int{1, 2}, zero)
		hold.Same(t, "Div by 0", e, api.ErrZero)
	}
}

func TestP2Gcd(t *testing.T) {
	d := hold.Draw(3)
	for _, q := range sizes {
		for range 40 {
			shared := append(d.List(q, d.Below(4)), 1)
			a, b := sum(t, q, nil, shared, d.List(q, d.Below(5))), sum(t, q, nil, shared, d.List(q, d.Below(5)))
			got, e := poly.Gcd(q, a, b)
			hold.Same(t, "Gcd's error", e, api.OK)
			if len(a)+len(b) == 0 {
				hold.List(t, "Gcd of 0 and 0", got)
				continue
			}
			hold.Same(t, "its last coefficient", got[len(got)-1], 1)
			for _, c := range [][]int{a, b} {
				_, rest, _ := poly.Div(q, c, got)
				hold.List(t, "what it leaves", rest)
			}
			_, rest, _ := poly.Div(q, got, shared)
			hold.List(t, "what the shared part leaves of it", rest)
			left, _, _ := poly.Div(q, a, got)
			right, _, _ := poly.Div(q, b, got)
			again, _ := poly.Gcd(q, left, right)
			hold.List(t, "what both still share", again, 1)
		}
	}
	got, _ := poly.Gcd(5, []int{0, 0}, nil)
	hold.List(t, "Gcd(0, 0)", got)
	got, _ = poly.Gcd(5, []int{2, 4, 0}, nil)
	hold.List(t, "Gcd(a, 0)", got, 3, 1)
	got, _ = poly.Gcd(5, nil, []int{2, 4})
	hold.List(t, "Gcd(0, b)", got, 3, 1)
}

func TestP2AtAndRoots(t *testing.T) {
	d := hold.Draw(4)
	for _, q := range sizes {
		f, _ := field.New(q)
		for range 20 {
			a := d.List(q, 1+d.Below(6))
			var zeros []int
			for x := range q {
				want := 0
				for i, c := range a {
					want = f.Add(want, f.Mul(c, f.Pow(x, i)))
				}
				got, e := poly.At(q, a, x)
				hold.Same(t, "At's error", e, api.OK)
				hold.Same(t, "At", got, want)
				if want == 0 {
					zeros = append(zeros, x)
				}
			}
			got, e := poly.Roots(q, a)
			if len(plain(a)) == 0 {
				hold.Same(t, "Roots of 0", e, api.ErrZero)
				continue
			}
			hold.Same(t, "Roots' error", e, api.OK)
			hold.List(t, "Roots", got, zeros...)
		}
	}
	got, e := poly.At(7, nil, 6)
	hold.Same(t, "At of 0", got, 0)
	hold.Same(t, "At of 0, error", e, api.OK)
}

func TestP2Through(t *testing.T) {
	got, _ := poly.Through(7, []int{0, 1, 2}, []int{1, 3, 0})
	hold.List(t, "Through", got, 1, 1, 1)
	got, e := poly.Through(7, nil, nil)
	hold.List(t, "Through nothing", got)
	hold.Same(t, "Through nothing, error", e, api.OK)
	for _, q := range sizes {
		d := hold.Draw(q)
		for many := range q + 1 {
			xs := make([]int, many)
			for i := range xs {
				xs[i] = (i*3 + i/3) % q
			}
			slices.Sort(xs)
			xs = slices.Compact(xs)
			slices.Reverse(xs)
			ys := d.List(q, len(xs))
			got, e := poly.Through(q, xs, ys)
			hold.Same(t, "Through's error", e, api.OK)
			hold.Same(t, "its degree is below the count", len(got) <= len(xs), true)
			hold.List(t, "Through without noughts", got, plain(got)...)
			for i, x := range xs {
				y, _ := poly.At(q, got, x)
				hold.Same(t, "the value", y, ys[i])
			}
		}
	}
}

func TestP2ThroughErrors(t *testing.T) {
	for _, c := range []struct {
		q      int
		xs, ys []int
		want   api.Errno
	}{
		{5, []int{0, 1}, []int{1}, api.ErrCount}, {5, nil, []int{0}, api.ErrCount}, {5, []int{0, 0}, []int{1}, api.ErrCount},
		{5, []int{0, 1}, []int{1, 0, 0}, api.ErrCount}, {5, []int{3, 1, 3}, []int{1, 1, 1}, api.ErrTwice}, {5, []int{3, 3}, []int{1, 2}, api.ErrTwice},
		{64, make([]int, 128), make([]int, 128), api.ErrTwice}, {5, []int{5}, []int{0, 0}, api.ErrValue}, {5, []int{0, 0}, []int{7}, api.ErrValue},
	} {
		_, e := poly.Through(c.q, c.xs, c.ys)
		hold.Same(t, "Through's error", e, c.want)
	}
}

// inOrder: those of fewer coefficients first, of as many as lists.
func inOrder(a, b []int) int {
	return cmp.Or(cmp.Compare(len(a), len(b)), slices.Compare(a, b))
}

// stands: is it of degree 1 at least, and none of all those from degree 1 to half of its own divides it?
func stands(q int, a []int) bool {
	many := 1
	for degree := 1; 2*degree <= len(a)-1; degree++ {
		many *= q
		for k := range many {
			d := make([]int, degree+1)
			for i := range degree {
				d[i], k = k%q, k/q
			}
			d[degree] = 1
			if _, rest, _ := poly.Div(q, a, d); len(rest) == 0 {
				return false
			}
		}
	}
	return len(a) > 1
}

func TestP3Examples(t *testing.T) {
	got, _ := poly.Factors(2, []int{1, 0, 0, 0, 0, 0, 0, 1})
	hold.Lists(t, "x^7 - 1 over 2", got, []int{1, 1}, []int{1, 0, 1, 1}, []int{1, 1, 0, 1})
	got, _ = poly.Factors(5, []int{0, 0, 0, 3, 0})
	hold.Lists(t, "3 x^3", got, []int{0, 1}, []int{0, 1}, []int{0, 1})
	got, _ = poly.Factors(3, []int{1, 0, 2, 0, 1})
	hold.Lists(t, "a square", got, []int{1, 0, 1}, []int{1, 0, 1})
	got, e := poly.Factors(7, []int{4, 0})
	hold.Lists(t, "a number", got)
	hold.Same(t, "a number, error", e, api.OK)
}

func TestP3Factors(t *testing.T) {
	d := hold.Draw(5)
	for _, c := range []struct{ q, most int }{{2, 11}, {3, 7}, {4, 6}, {5, 5}, {7, 5}, {9, 4}, {16, 4}, {27, 3}, {64, 3}} {
		for range 25 {
			a := append(d.List(c.q, d.Below(c.most)), 1+d.Below(c.q-1))
			got, e := poly.Factors(c.q, a)
			hold.Same(t, "Factors' error", e, api.OK)
			hold.Same(t, "they are in order", slices.IsSortedFunc(got, inOrder), true)
			product := a[len(a)-1:]
			for _, p := range got {
				hold.Same(t, "its last coefficient", p[len(p)-1], 1)
				hold.Same(t, "it can't be parted", stands(c.q, p), true)
				product = sum(t, c.q, nil, product, p)
			}
			hold.List(t, "their product", product, a...)
			one, e := poly.Irreducible(c.q, a)
			hold.Same(t, "Irreducible's error", e, api.OK)
			hold.Same(t, "Irreducible", one, stands(c.q, a))
		}
	}
}

func TestP3Limit(t *testing.T) {
	power := func(n, noughts int) []int { return append(append(make([]int, n), 1), make([]int, noughts)...) }
	for _, c := range []struct{ q, degree int }{{2, 25}, {3, 15}, {4, 13}, {8, 9}, {16, 7}, {64, 5}, {61, 5}, {7, 9}} {
		got, e := poly.Factors(c.q, power(c.degree, 3))
		hold.Same(t, "Factors' error", e, api.OK)
		hold.Same(t, "how many there are", len(got), c.degree)
		for _, degree := range []int{c.degree + 1, 127} {
			got, e = poly.Factors(c.q, power(degree, 0))
			hold.Same(t, "Factors' error", e, api.ErrLimit)
			hold.Lists(t, "nothing beside it", got)
			ok, e := poly.Irreducible(c.q, power(degree, 0))
			hold.Same(t, "Irreducible's error", e, api.ErrLimit)
			hold.Same(t, "nothing beside it", ok, false)
		}
	}
	// The hardest that is still asked for: one of degree 25, and nothing divides it.
	hard := append(append([]int{1, 0, 0, 1}, make([]int, 21)...), 1)
	got, e := poly.Factors(2, hard)
	hold.Same(t, "Factors' error", e, api.OK)
	hold.Lists(t, "x^25 + x^3 + 1", got, hard)
}

func TestP3Irreducible(t *testing.T) {
	for _, c := range []struct {
		q    int
		a    []int
		want bool
	}{
		{2, []int{1, 1, 1}, true}, {4, []int{1, 1, 1}, false}, {2, []int{1, 0, 1}, false}, {5, []int{3}, false},
		{5, []int{3, 2}, true}, {3, []int{2, 0, 2, 0}, true}, {7, []int{0, 1}, true}, {7, []int{0, 0, 1}, false},
	} {
		got, e := poly.Irreducible(c.q, c.a)
		hold.Same(t, "Irreducible's error", e, api.OK)
		hold.Same(t, "Irreducible", got, c.want)
	}
	for _, q := range sizes {
		if f, _ := field.New(q); f.Degree() > 1 {
			got, _ := poly.Irreducible(f.Char(), f.Poly())
			hold.Same(t, "a modulus can't be parted", got, true)
		}
	}
}

// TestListsAreTheCallers: nothing that is handed in is written into, and what comes out shares no memory with it, nor with each other.
func TestListsAreTheCallers(t *testing.T) {
	back := []int{1, 2, 1, 0, 4, 4, 4}
	a, b := back[:4], []int{1, 1, 0}
	var outs [][]int
	keep := func(l []int, _ api.Errno) { outs = append(outs, l) }
	keep(poly.Add(5, a, nil))
	keep(poly.Add(5, nil, a))
	keep(poly.Mul(5, a, []int{1}))
	keep(poly.Gcd(5, a, nil))
	keep(poly.Gcd(5, nil, b))
	keep(poly.Gcd(5, a, b))
	keep(poly.Through(5, []int{1, 2}, b[:2]))
	for _, by := range [][]int{b, {0, 0, 0, 0, 1}} {
		quot, rest, _ := poly.Div(5, a, by)
		outs = append(outs, quot, rest)
	}
	parts, _ := poly.Factors(5, a)
	outs = append(outs, parts...)
	roots, _ := poly.Roots(5, a)
	outs = append(outs, roots)
	hold.Apart(t, outs...)
	hold.List(t, "what was handed in", back, 1, 2, 1, 0, 4, 4, 4)
	hold.List(t, "what was handed in", b, 1, 1, 0)
}
