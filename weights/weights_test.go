package weights_test

import (
	"fmt"
	"math"
	"testing"

	"syndrome/api"
	"syndrome/code"
	"syndrome/hold"
	"syndrome/weights"
)

// kinds: sizes of fields, and lengths, of which all words can be gone through.
var kinds = [][2]int{{2, 1}, {2, 2}, {2, 5}, {2, 8}, {3, 1}, {3, 3}, {3, 5}, {4, 3}, {5, 3}, {7, 2}, {8, 2}, {9, 2}, {64, 1}}

// bounds: those of W3 that ask for a length.
var bounds = map[string]func(q, n, d int) (int, api.Errno){
	"Hamming": weights.Hamming, "Singleton": weights.Singleton, "Plotkin": weights.Plotkin, "Varshamov": weights.Varshamov,
}

// within: how many words of n numbers have a weight of so many at most.
func within(q, n, radius int) int {
	many := 0
	for word := range hold.Each(q, n) {
		if code.Weight(word) <= radius {
			many++
		}
	}
	return many
}

// words of n numbers, all of them.
func words(q, n int) int { return within(q, n, n) }

// coefficient of z^k of (1 - z)^x (1 + (q - 1) z)^(n - x): another way to say K(k, x).
func coefficient(q, n, k, x int) int {
	all := make([]int, n+2)
	all[0] = 1
	for i := range n {
		factor := q - 1
		if i < x {
			factor = -1
		}
		for j := n; j > 0; j-- {
			all[j] += factor * all[j-1]
		}
	}
	return all[k]
}

func TestW1Check(t *testing.T) {
	for _, c := range []struct {
		q, n int
		want api.Errno
	}{
		{2, 1, api.OK}, {2, 30, api.OK}, {2, 31, api.ErrLimit}, {3, 18, api.OK}, {3, 19, api.ErrLimit},
		{4, 15, api.OK}, {4, 16, api.ErrLimit}, {8, 10, api.OK}, {8, 11, api.ErrLimit}, {32, 6, api.OK}, {32, 7, api.ErrLimit},
		{64, 5, api.OK}, {64, 6, api.ErrLimit}, {61, 5, api.OK}, {61, 6, api.ErrLimit},
		{2, 0, api.ErrLimit}, {2, -1, api.ErrLimit}, {2, math.MinInt, api.ErrLimit}, {2, math.MaxInt, api.ErrLimit},
		{64, math.MaxInt, api.ErrLimit}, {2, 62, api.ErrLimit}, {2, 63, api.ErrLimit}, {2, 64, api.ErrLimit}, {2, 65, api.ErrLimit},
		{1, 1, api.ErrField}, {0, 1, api.ErrField}, {-2, 1, api.ErrField}, {6, 1, api.ErrField}, {65, 1, api.ErrField},
		{81, 1, api.ErrField}, {6, 0, api.ErrField}, {6, 31, api.ErrField}, {math.MaxInt, math.MaxInt, api.ErrField}, {math.MinInt, 1, api.ErrField},
	} {
		hold.Same(t, fmt.Sprint("Check ", c.q, c.n), weights.Check(c.q, c.n), c.want)
	}
}

func TestW1Krawtchouk(t *testing.T) {
	for _, kind := range append(kinds, [2]int{2, 30}, [2]int{3, 18}, [2]int{64, 5}, [2]int{5, 12}) {
		q, n := kind[0], kind[1]
		for k := range n + 1 {
			for x := range n + 1 {
				got, e := weights.Krawtchouk(q, n, k, x)
				hold.Same(t, fmt.Sprint("Krawtchouk ", q, n, k, x), got, coefficient(q, n, k, x))
				hold.Same(t, "its error", e, api.OK)
			}
		}
	}
	got, _ := weights.Krawtchouk(2, 7, 3, 2)
	hold.Same(t, "Krawtchouk 2 7 3 2", got, -5)
}

func TestW1KrawtchoukErrors(t *testing.T) {
	for _, c := range []struct {
		q, n, k, x int
		want       api.Errno
	}{
		{2, 7, 0, 0, api.OK}, {2, 7, 7, 7, api.OK},
		{2, 7, -1, 0, api.ErrPlace}, {2, 7, 8, 0, api.ErrPlace}, {2, 7, 0, -1, api.ErrPlace}, {2, 7, 0, 8, api.ErrPlace},
		{2, 7, math.MaxInt, 0, api.ErrPlace}, {2, 7, 0, math.MinInt, api.ErrPlace},
		{2, 31, -1, 0, api.ErrLimit}, {2, 0, 0, 0, api.ErrLimit}, {6, 7, -1, 0, api.ErrField}, {6, 0, 0, 0, api.ErrField},
	} {
		got, e := weights.Krawtchouk(c.q, c.n, c.k, c.x)
		hold.Same(t, fmt.Sprint("Krawtchouk ", c.q, c.n, c.k, c.x), e, c.want)
		if e != api.OK {
			hold.Same(t, "what is told beside an error", got, 0)
		}
	}
}

// TestW2Dual: it tells the weights of a code's dual, and back.
func TestW2Dual(t *testing.T) {
	d := hold.Draw(5)
	for range 300 {
		q := []int{2, 2, 3, 4, 5, 7}[d.Below(6)]
		n := 1 + d.Below(map[int]int{2: 11, 3: 7, 4: 6, 5: 5, 7: 4}[q])
		c := api.Code{Q: q, N: n, Rows: d.Matrix(q, d.Below(n+2), n)}
		a, _ := code.Weights(c)
		other, _ := code.Dual(c)
		b, _ := code.Weights(other)
		got, e := weights.Dual(q, a)
		hold.Same(t, "the error of Dual", e, api.OK)
		hold.List(t, fmt.Sprint("Dual ", q, a), got, b...)
		back, _ := weights.Dual(q, got)
		hold.List(t, fmt.Sprint("Dual ", q, got), back, a...)
	}
}

func TestW2Answers(t *testing.T) {
	whole := make([]int, 31)
	whole[0] = 1 << 30
	binomials := make([]int, 31)
	for k, many := 0, 1; k <= 30; k++ {
		binomials[k] = many
		many = many * (30 - k) / (k + 1)
	}
	for _, c := range []struct {
		q       int
		a, want []int
	}{
		{2, []int{1, 0, 0, 7, 7, 0, 0, 1}, []int{1, 0, 0, 0, 7, 0, 0, 0}},
		{2, []int{2, 0}, []int{1, 1}},       // one may be q^n
		{2, []int{1, 1}, []int{1, 0}},       // all together may be q^n
		{2, []int{0, 0, 1}, nil},            // K(1, 2) is -2
		{3, []int{0, 1}, nil},               // K(1, 1) is -1
		{2, []int{1, 1, 1}, nil},            // 1 by 3 is no whole number
		{2, []int{3, 1, 0}, nil},            // 6 by 4
		{2, []int{3, 0, 1}, []int{1, 1, 1}}, // no code has these, but they come to whole numbers
		{64, []int{1, 0, 0, 0, 0, 0}, []int{1, 315, 39690, 2500470, 78764805, 992436543}},
		{2, whole, binomials},
		{2, binomials, append([]int{1}, make([]int, 30)...)},
	} {
		got, e := weights.Dual(c.q, c.a)
		want := api.OK
		if c.want == nil {
			want = api.ErrForm
		}
		hold.Same(t, fmt.Sprint("Dual ", c.q, c.a), e, want)
		hold.List(t, fmt.Sprint("Dual ", c.q, c.a), got, c.want...)
	}
}

func TestW2Errors(t *testing.T) {
	for _, c := range []struct {
		q    int
		a    []int
		want api.Errno
	}{
		{6, nil, api.ErrField}, {1, []int{-1, 0}, api.ErrField}, {2, nil, api.ErrLimit}, {2, []int{-1}, api.ErrLimit}, {2, []int{1}, api.ErrLimit},
		{2, make([]int, 31), api.ErrZero}, {2, make([]int, 32), api.ErrLimit}, {64, make([]int, 6), api.ErrZero}, {64, make([]int, 7), api.ErrLimit},
		{2, []int{0, 0, 0}, api.ErrZero}, {2, []int{0, 0, -1}, api.ErrValue}, {2, []int{0, 5, 0}, api.ErrValue}, {2, []int{0, 3, 2}, api.ErrValue},
		{2, []int{4, 0, 1}, api.ErrValue}, {2, []int{5, -1, 0}, api.ErrValue}, {2, []int{1, -1, 0}, api.ErrValue},
		{2, []int{math.MaxInt, math.MaxInt, 2}, api.ErrValue}, {2, []int{math.MinInt, math.MinInt, 1}, api.ErrValue}, {2, []int{math.MaxInt, 1, math.MinInt}, api.ErrValue},
	} {
		got, e := weights.Dual(c.q, c.a)
		hold.Same(t, fmt.Sprint("Dual ", c.q, c.a), e, c.want)
		hold.List(t, "what is told beside an error", got)
	}
}

func TestW2ListsAreTheCallers(t *testing.T) {
	a := append(make([]int, 0, 20), 1, 0, 0, 7, 7, 0, 0, 1)
	got, _ := weights.Dual(2, a)
	hold.List(t, "what was handed in", a, 1, 0, 0, 7, 7, 0, 0, 1)
	again, _ := weights.Dual(2, a)
	hold.Apart(t, a, got, again)
}

// TestW3Bounds holds them against words that are counted one by one.
func TestW3Bounds(t *testing.T) {
	for _, kind := range kinds {
		q, n := kind[0], kind[1]
		for d := 1; d <= n; d++ {
			all, near, apart := words(q, n), within(q, n, (d-1)/2), within(q, n, d-1)
			plotkin := 0
			if q*d > n*(q-1) {
				plotkin = q * d / (q*d - n*(q-1))
			}
			least := all / apart
			if all%apart > 0 {
				least++
			}
			for name, want := range map[string]int{"Hamming": all / near, "Singleton": words(q, n-d+1), "Plotkin": plotkin, "Varshamov": least} {
				got, e := bounds[name](q, n, d)
				hold.Same(t, fmt.Sprint(name, " ", q, n, d), got, want)
				hold.Same(t, "its error", e, api.OK)
			}
		}
	}
}

func TestW3Answers(t *testing.T) {
	for _, c := range []struct {
		q, n, d                                int
		hamming, singleton, plotkin, varshamov int
	}{
		{2, 7, 3, 16, 32, 0, 5}, {3, 6, 4, 56, 27, 0, 4}, {2, 4, 2, 16, 8, 0, 4}, {2, 5, 3, 5, 8, 6, 2}, {2, 4, 3, 3, 4, 3, 2},
		{3, 4, 3, 9, 9, 9, 3}, {3, 3, 2, 27, 9, 0, 4}, {2, 23, 7, 4096, 131072, 0, 58}, {2, 30, 1, 1 << 30, 1 << 30, 0, 1 << 30},
		{2, 30, 30, 2, 2, 2, 2}, {64, 5, 5, 26839, 64, 64, 14}, {64, 5, 1, 1 << 30, 1 << 30, 0, 1 << 30}, {2, 1, 1, 2, 2, 2, 2},
	} {
		for name, want := range map[string]int{"Hamming": c.hamming, "Singleton": c.singleton, "Plotkin": c.plotkin, "Varshamov": c.varshamov} {
			got, e := bounds[name](c.q, c.n, c.d)
			hold.Same(t, fmt.Sprint(name, " ", c.q, c.n, c.d), got, want)
			hold.Same(t, "its error", e, api.OK)
		}
	}
}

// TestW3NoCodeHasMore: linear codes keep to them.
func TestW3NoCodeHasMore(t *testing.T) {
	d := hold.Draw(9)
	for range 400 {
		q := []int{2, 3, 4, 5}[d.Below(4)]
		n := 1 + d.Below(map[int]int{2: 9, 3: 6, 4: 5, 5: 4}[q])
		c, _ := code.Make(api.Code{Q: q, N: n, Rows: d.Matrix(q, 1+d.Below(n), n)})
		apart, _ := code.Distance(c)
		if apart == 0 {
			continue
		}
		many := words(q, len(c.Rows))
		for name, bound := range bounds {
			most, _ := bound(q, n, apart)
			if name != "Varshamov" && many > most && !(name == "Plotkin" && most == 0) {
				t.Fatalf("%v has %d words, more than %s tells: %d", c, many, name, most)
			}
		}
		if long, _ := weights.Griesmer(q, len(c.Rows), apart); n < long {
			t.Fatalf("%v is shorter than Griesmer tells: %d", c, long)
		}
	}
}

func TestW3Errors(t *testing.T) {
	for _, c := range []struct {
		q, n, d int
		want    api.Errno
	}{
		{2, 7, 1, api.OK}, {2, 7, 7, api.OK}, {2, 7, 0, api.ErrPlace}, {2, 7, 8, api.ErrPlace}, {2, 7, -1, api.ErrPlace},
		{2, 7, math.MaxInt, api.ErrPlace}, {2, 7, math.MinInt, api.ErrPlace}, {2, 31, 0, api.ErrLimit}, {2, 0, 0, api.ErrLimit},
		{2, -1, -1, api.ErrLimit}, {64, 6, 1, api.ErrLimit}, {6, 0, 0, api.ErrField}, {65, 1, 1, api.ErrField},
	} {
		for name, bound := range bounds {
			got, e := bound(c.q, c.n, c.d)
			hold.Same(t, fmt.Sprint(name, " ", c.q, c.n, c.d), e, c.want)
			if e != api.OK {
				hold.Same(t, "what is told beside an error", got, 0)
			}
		}
	}
}

func TestW3Griesmer(t *testing.T) {
	for _, c := range []struct {
		q, k, d, want int
		e             api.Errno
	}{
		{2, 4, 3, 7, api.OK}, {2, 12, 8, 23, api.OK}, {2, 1, 5, 5, api.OK}, {3, 2, 3, 4, api.OK}, {3, 3, 4, 7, api.OK}, {3, 4, 10, 17, api.OK},
		{2, 64, 64, 184, api.OK}, {64, 64, 64, 127, api.OK}, {3, 64, 1, 64, api.OK}, {2, 3, 5, 10, api.OK},
		{64, 65, 1, 0, api.ErrLimit}, {2, 0, 1, 0, api.ErrLimit}, {2, 1, 0, 0, api.ErrLimit}, {2, 1, 65, 0, api.ErrLimit},
		{2, math.MaxInt, 1, 0, api.ErrLimit}, {2, 1, math.MinInt, 0, api.ErrLimit}, {6, 0, 0, 0, api.ErrField}, {0, 1, 1, 0, api.ErrField},
	} {
		got, e := weights.Griesmer(c.q, c.k, c.d)
		hold.Same(t, fmt.Sprint("Griesmer ", c.q, c.k, c.d), got, c.want)
		hold.Same(t, "its error", e, c.e)
	}
}

// showsSame holds an answer of Shows.
func showsSame(t *testing.T, q, n, d int, f []int, up, down int, ok bool, e api.Errno) {
	t.Helper()
	what := fmt.Sprint("Shows ", q, n, d, f)
	gotUp, gotDown, gotOk, gotE := weights.Shows(q, n, d, f)
	hold.Same(t, "the error of "+what, gotE, e)
	hold.Same(t, what, gotOk, ok)
	hold.Same(t, what, [2]int{gotUp, gotDown}, [2]int{up, down})
}

// TestW4Shows holds it against another way to reckon, and against codes.
func TestW4Shows(t *testing.T) {
	draw := hold.Draw(3)
	shown := 0
	for range 3000 {
		kind := kinds[draw.Below(len(kinds))]
		q, n := kind[0], kind[1]
		d := 1 + draw.Below(n)
		f := draw.List(5, n+1)
		at := make([]int, n+1)
		for x := range at {
			for k, v := range f {
				at[x] += v * coefficient(q, n, k, x)
			}
		}
		ok := f[0] > 0
		for x := d; x <= n; x++ {
			ok = ok && at[x] <= 0
		}
		if !ok {
			showsSame(t, q, n, d, f, 0, 0, false, api.OK)
			continue
		}
		shown++
		showsSame(t, q, n, d, f, at[0], f[0], true, api.OK)
		if least, _ := weights.Varshamov(q, n, d); least*f[0] > at[0] {
			t.Fatalf("Shows %d %d %d %v => %d / %d, but there are %d words", q, n, d, f, at[0], f[0], least)
		}
	}
	if shown < 100 {
		t.Fatalf("but %d showed something", shown)
	}
}

func TestW4Answers(t *testing.T) {
	showsSame(t, 2, 7, 4, []int{1, 1, 0, 0, 0, 0, 0, 0}, 8, 1, true, api.OK)
	showsSame(t, 2, 4, 3, []int{3, 4, 3, 0, 0}, 0, 0, false, api.OK)
	showsSame(t, 2, 4, 3, []int{0, 4, 3, 0, 0}, 0, 0, false, api.OK)
	showsSame(t, 2, 7, 1, []int{0, 0, 0, 0, 0, 0, 0, 0}, 0, 0, false, api.OK)
	showsSame(t, 2, 4, 4, []int{1, 1, 0, 0, 0}, 5, 1, true, api.OK)
	showsSame(t, 2, 4, 2, []int{1, 1, 0, 0, 0}, 0, 0, false, api.OK) // f(2) is 1
	showsSame(t, 2, 3, 2, []int{1, 1, 0, 0}, 4, 1, true, api.OK)     // f(2) is 0: not above it
	showsSame(t, 2, 2, 1, []int{1, 0, 1}, 0, 0, false, api.OK)       // at the last x alone: f(1) is 0, f(2) is 2
	most := make([]int, 31)
	for k := range most {
		most[k] = 1 << 20
	}
	showsSame(t, 2, 30, 1, most, 1<<50, 1<<20, true, api.OK)
	showsSame(t, 64, 5, 1, most[:6], 1<<50, 1<<20, true, api.OK)
}

func TestW4Errors(t *testing.T) {
	good := []int{1, 1, 0}
	for _, c := range []struct {
		q, n, d int
		f       []int
		want    api.Errno
	}{
		{2, 2, 2, []int{1, 1}, api.ErrCount}, {2, 2, 2, []int{1, 1, 0, 0}, api.ErrCount}, {2, 2, 2, nil, api.ErrCount}, {2, 2, 2, []int{-1, 1}, api.ErrCount},
		{2, 2, 2, []int{1, -1, 0}, api.ErrValue}, {2, 2, 2, []int{1, 1, 1<<20 + 1}, api.ErrValue}, {2, 2, 2, []int{0, 1, -1}, api.ErrValue},
		{2, 2, 2, []int{math.MaxInt, 1, 1}, api.ErrValue}, {2, 2, 2, []int{1, math.MinInt, 1}, api.ErrValue},
		{2, 2, 0, good, api.ErrPlace}, {2, 2, 3, good, api.ErrPlace}, {2, 2, 3, nil, api.ErrPlace}, {2, 31, 0, nil, api.ErrLimit}, {2, 0, 1, good, api.ErrLimit},
		{6, 0, 0, nil, api.ErrField}, {2, math.MaxInt, 1, good, api.ErrLimit}, {2, -1, 1, nil, api.ErrLimit},
	} {
		showsSame(t, c.q, c.n, c.d, c.f, 0, 0, false, c.want)
	}
	hold.List(t, "what was handed in", good, 1, 1, 0)
}
