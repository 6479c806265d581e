package field_test

import (
	"math"
	"slices"
	"sync"
	"testing"

	"syndrome/api"
	"syndrome/field"
	"syndrome/hold"
)

// all: every field there is, with its prime and degree.
var all = []struct{ q, p, m int }{
	{2, 2, 1}, {3, 3, 1}, {4, 2, 2}, {5, 5, 1}, {7, 7, 1}, {8, 2, 3}, {9, 3, 2}, {11, 11, 1}, {13, 13, 1}, {16, 2, 4},
	{17, 17, 1}, {19, 19, 1}, {23, 23, 1}, {25, 5, 2}, {27, 3, 3}, {29, 29, 1}, {31, 31, 1}, {32, 2, 5}, {37, 37, 1},
	{41, 41, 1}, {43, 43, 1}, {47, 47, 1}, {49, 7, 2}, {53, 53, 1}, {59, 59, 1}, {61, 61, 1}, {64, 2, 6},
}

// extremes: numbers that are elements of no field.
var extremes = []int{math.MinInt, math.MinInt + 1, -65, -1, 64, 65, math.MaxInt - 1, math.MaxInt}

func open(t *testing.T, q int) *field.Field {
	t.Helper()
	f, e := field.New(q)
	if e != api.OK || f == nil {
		t.Fatalf("New(%d) => %v, %d", q, f, e)
	}
	return f
}

// split and join go between an element and its polynomial.
func split(a, p, m int) []int {
	out := make([]int, m)
	for i := range out {
		out[i], a = a%p, a/p
	}
	return out
}

func join(digits []int, p int) int {
	a := 0
	for _, d := range slices.Backward(digits) {
		a = a*p + d
	}
	return a
}

// product multiplies two elements as polynomials, by the schoolbook.
func product(a, b, p int, modulus []int) int {
	m := len(modulus) - 1
	x, y, z := split(a, p, m), split(b, p, m), make([]int, 2*m)
	for i := range x {
		for j := range y {
			z[i+j] = (z[i+j] + x[i]*y[j]) % p
		}
	}
	for top := 2*m - 1; top >= m; top-- {
		lead := z[top]
		for i := range modulus {
			z[top-m+i] = (z[top-m+i] + (p-lead)*modulus[i]) % p
		}
	}
	return join(z[:m], p)
}

// makesAll: are the powers of g all numbers from 1 to q - 1, and no other?
func makesAll(g, q int, times func(a, b int) int) bool {
	seen := map[int]bool{}
	for a := 1; !seen[a]; a = times(a, g) {
		seen[a] = true
	}
	return len(seen) == q-1 && !seen[0]
}

func TestF1Sizes(t *testing.T) {
	is := map[int]bool{}
	for _, c := range all {
		is[c.q] = true
		f := open(t, c.q)
		hold.Same(t, "Size", f.Size(), c.q)
		hold.Same(t, "Char", f.Char(), c.p)
		hold.Same(t, "Degree", f.Degree(), c.m)
	}
	for q := -10; q < 200; q++ {
		if f, e := field.New(q); !is[q] && (f != nil || e != api.ErrField) {
			t.Errorf("New(%d) => %v, %d", q, f, e)
		}
	}
	for _, q := range []int{math.MinInt, math.MaxInt, 1 << 32, 1 << 62, 81, 121, 125, 128} {
		if f, e := field.New(q); f != nil || e != api.ErrField {
			t.Errorf("New(%d) => %v, %d", q, f, e)
		}
	}
}

func TestF1Modulus(t *testing.T) {
	hold.List(t, "Poly of 8", open(t, 8).Poly(), 1, 1, 0, 1)
	hold.List(t, "Poly of 9", open(t, 9).Poly(), 2, 1, 1)
	for _, c := range all {
		f := open(t, c.q)
		if c.m == 1 {
			hold.List(t, "Poly of a prime field", f.Poly(), 0, 1)
			continue
		}
		for low := range c.q {
			modulus := append(split(low, c.p, c.m), 1)
			if makesAll(c.p, c.q, func(a, b int) int { return product(a, b, c.p, modulus) }) {
				hold.List(t, "Poly", f.Poly(), modulus...)
				hold.Same(t, "Gen", f.Gen(), c.p)
				break
			}
		}
	}
}

func TestF1PrimeGenerators(t *testing.T) {
	hold.Same(t, "Gen of 2", open(t, 2).Gen(), 1)
	for _, c := range all {
		if c.m > 1 {
			continue
		}
		g := 1
		for !makesAll(g, c.q, func(a, b int) int { return a * b % c.p }) {
			g++
		}
		hold.Same(t, "Gen", open(t, c.q).Gen(), g)
	}
}

func TestF1SumsAndProducts(t *testing.T) {
	for _, c := range all {
		f := open(t, c.q)
		modulus := f.Poly()
		for a := range c.q {
			for b := range c.q {
				x, y := split(a, c.p, c.m), split(b, c.p, c.m)
				for i := range x {
					x[i] = (x[i] + y[i]) % c.p
				}
				hold.Same(t, "Add", f.Add(a, b), join(x, c.p))
				want := a * b % c.p
				if c.m > 1 {
					want = product(a, b, c.p, modulus)
				}
				hold.Same(t, "Mul", f.Mul(a, b), want)
			}
		}
	}
}

// TestF1MadeOnce asks for a field in many places at the same time.
func TestF1MadeOnce(t *testing.T) {
	var group sync.WaitGroup
	got := make([]int, 50)
	for i := range got {
		group.Go(func() {
			if f, e := field.New(49); e == api.OK {
				got[i] = f.Mul(7, 7)
			}
		})
	}
	group.Wait()
	for _, v := range got {
		hold.Same(t, "Mul(7, 7)", v, got[0])
	}
	hold.Same(t, "Mul(7, 7)", got[0], open(t, 49).Pow(7, 2))
}

func TestFieldsAreTheCallers(t *testing.T) {
	f, g := open(t, 8), open(t, 8)
	f.Poly()[0] = 7
	f.Within(2)[1] = 7
	*f = *open(t, 9)
	for _, h := range []*field.Field{g, open(t, 8)} {
		hold.List(t, "Poly", h.Poly(), 1, 1, 0, 1)
		hold.List(t, "Within", h.Within(2), 0, 1)
		hold.Same(t, "Size", h.Size(), 8)
	}
}

func TestF2Examples(t *testing.T) {
	f := open(t, 8)
	hold.Same(t, "Add(5, 3)", f.Add(5, 3), 6)
	hold.Same(t, "Mul(5, 3)", f.Mul(5, 3), 4)
	hold.Same(t, "Inv(5)", f.Inv(5), 2)
	hold.Same(t, "Pow(2, 3)", f.Pow(2, 3), 3)
	hold.Same(t, "Log(5)", f.Log(5), 6)
	f = open(t, 9)
	hold.Same(t, "Add(5, 7)", f.Add(5, 7), 0)
	hold.Same(t, "Mul(5, 7)", f.Mul(5, 7), 1)
}

func TestF2Inverses(t *testing.T) {
	for _, c := range all {
		f := open(t, c.q)
		hold.Same(t, "Inv(0)", f.Inv(0), -1)
		hold.Same(t, "Log(0)", f.Log(0), -1)
		for a := range c.q {
			hold.Same(t, "Has", f.Has(a), true)
			hold.Same(t, "a + Neg(a)", f.Add(a, f.Neg(a)), 0)
			for b := range c.q {
				hold.Same(t, "Sub(a, b) + b", f.Add(f.Sub(a, b), b), a)
			}
			if a > 0 {
				hold.Same(t, "a Inv(a)", f.Mul(a, f.Inv(a)), 1)
				hold.Same(t, "Gen to the Log(a)", f.Pow(f.Gen(), f.Log(a)), a)
				hold.Same(t, "Log(a) is below q - 1", f.Log(a) >= 0 && f.Log(a) < c.q-1, true)
			}
		}
	}
}

func TestF2Powers(t *testing.T) {
	for _, c := range all {
		f := open(t, c.q)
		for a := range c.q {
			hold.Same(t, "Pow(a, 0)", f.Pow(a, 0), 1)
			up := 1
			for k := 1; k < 2*c.q; k++ {
				up = f.Mul(up, a)
				hold.Same(t, "Pow(a, k)", f.Pow(a, k), up)
				hold.Same(t, "Pow(a, -k)", f.Pow(a, -k), f.Inv(up))
			}
		}
		for _, k := range []int{math.MaxInt, math.MaxInt - 1, math.MinInt, math.MinInt + 1} {
			for a := 1; a < c.q; a++ {
				hold.Same(t, "Pow(a, k)", f.Pow(a, k), f.Pow(a, k%(c.q-1)))
			}
		}
		hold.Same(t, "Pow(0, MaxInt)", f.Pow(0, math.MaxInt), 0)
		hold.Same(t, "Pow(0, MinInt)", f.Pow(0, math.MinInt), -1)
	}
}

func TestF2NoElements(t *testing.T) {
	for _, c := range all {
		f := open(t, c.q)
		for _, bad := range append([]int{c.q}, extremes...) {
			if bad >= 0 && bad < c.q {
				t.Fatalf("%d is an element of %d", bad, c.q)
			}
			hold.Same(t, "Has", f.Has(bad), false)
			for _, v := range []int{
				f.Add(bad, 1), f.Add(1, bad), f.Sub(bad, 0), f.Sub(0, bad), f.Mul(bad, 0), f.Mul(0, bad), f.Mul(bad, bad),
				f.Neg(bad), f.Inv(bad), f.Log(bad), f.Pow(bad, 0), f.Pow(bad, 1), f.Pow(bad, -1),
				f.Frob(bad, 0), f.Frob(bad, 1), f.Frob(bad, -1), f.Trace(bad), f.Norm(bad),
			} {
				hold.Same(t, "of no element", v, -1)
			}
		}
	}
}

func TestF3Frob(t *testing.T) {
	for _, c := range all {
		f := open(t, c.q)
		for a := range c.q {
			up := a
			for times := range 2*c.m + 1 {
				hold.Same(t, "Frob", f.Frob(a, times), up)
				hold.Same(t, "Frob back", f.Frob(up, -times), a)
				up = f.Pow(up, c.p)
			}
			for _, times := range []int{math.MinInt, math.MinInt + 1, math.MaxInt} {
				hold.Same(t, "Frob", f.Frob(a, times), f.Frob(a, times%c.m))
			}
		}
	}
}

func TestF3TraceAndNorm(t *testing.T) {
	hold.Same(t, "Trace(5)", open(t, 8).Trace(5), 1)
	hold.Same(t, "Norm(5)", open(t, 8).Norm(5), 1)
	for _, c := range all {
		f := open(t, c.q)
		for a := range c.q {
			sum, product := 0, 1
			for power, k := 1, 0; k < c.m; power, k = power*c.p, k+1 {
				sum = f.Add(sum, f.Pow(a, power))
				product = f.Mul(product, f.Pow(a, power))
			}
			hold.Same(t, "Trace", f.Trace(a), sum)
			hold.Same(t, "Norm", f.Norm(a), product)
			hold.Same(t, "both are of the prime field", f.Trace(a) < c.p && f.Norm(a) < c.p, true)
		}
	}
}

func TestF4Within(t *testing.T) {
	hold.List(t, "8 Within(2)", open(t, 8).Within(2), 0, 1)
	hold.List(t, "9 Within(3)", open(t, 9).Within(3), 0, 1, 2)
	hold.List(t, "16 Within(4)", open(t, 16).Within(4), 0, 1, 6, 7)
	for _, c := range all {
		f := open(t, c.q)
		for size := -2; size < 140; size++ {
			var want []int
			for _, s := range all {
				if s.q != size || s.p != c.p || c.m%s.m != 0 {
					continue
				}
				for a := range c.q {
					if f.Pow(a, size) == a {
						want = append(want, a)
					}
				}
				hold.Same(t, "how many there are", len(want), size)
			}
			hold.List(t, "Within", f.Within(size), want...)
		}
		for _, size := range extremes {
			if size != 64 {
				hold.List(t, "Within", f.Within(size))
			}
		}
	}
}

func TestF4EmbedErrors(t *testing.T) {
	for _, c := range []struct {
		q, greater int
		want       api.Errno
	}{
		{6, 16, api.ErrField}, {4, 6, api.ErrField}, {6, 6, api.ErrField}, {1, 2, api.ErrField}, {64, 4096, api.ErrField},
		{math.MinInt, 4, api.ErrField}, {4, math.MaxInt, api.ErrField},
		{4, 8, api.ErrForm}, {16, 4, api.ErrForm}, {3, 4, api.ErrForm}, {2, 9, api.ErrForm}, {8, 16, api.ErrForm}, {16, 64, api.ErrForm},
	} {
		l, e := field.Embed(c.q, c.greater)
		hold.Same(t, "Embed's error", e, c.want)
		hold.List(t, "Embed's list", l)
	}
}

func TestF4Embed(t *testing.T) {
	l, _ := field.Embed(4, 16)
	hold.List(t, "Embed(4, 16)", l, 0, 1, 6, 7)
	for _, small := range all {
		for _, great := range all {
			if small.p == great.p && great.m%small.m == 0 {
				embedKeeps(t, small.q, great.q)
			}
		}
	}
}

// embedKeeps: do sums and products stay, and is x the first root there is?
func embedKeeps(t *testing.T, small, great int) {
	t.Helper()
	f, g := open(t, small), open(t, great)
	to, e := field.Embed(small, great)
	hold.Same(t, "Embed's error", e, api.OK)
	hold.Same(t, "how many there are", len(to), small)
	for a := range small {
		for b := range small {
			hold.Same(t, "what the sum becomes", to[f.Add(a, b)], g.Add(to[a], to[b]))
			hold.Same(t, "what the product becomes", to[f.Mul(a, b)], g.Mul(to[a], to[b]))
		}
	}
	for a := range f.Char() {
		hold.Same(t, "what a number below p becomes", to[a], a)
	}
	if f.Degree() == 1 {
		return
	}
	for root := g.Pow(g.Gen(), (great-1)/(small-1)); ; root = g.Mul(root, g.Pow(g.Gen(), (great-1)/(small-1))) {
		sum := 0
		for i, c := range f.Poly() {
			sum = g.Add(sum, g.Mul(c, g.Pow(root, i)))
		}
		if sum == 0 {
			hold.Same(t, "what x becomes", to[f.Gen()], root)
			return
		}
	}
}
