package lists_test

import (
	"fmt"
	"math"
	"slices"
	"testing"

	"syndrome/api"
	"syndrome/code"
	"syndrome/field"
	"syndrome/hold"
	"syndrome/lists"
	"syndrome/poly"
	"syndrome/reed"
)

// places: different numbers below q, at least so many.
func places(d *hold.Draw, q, least int) []int {
	return d.Different(q, least+d.Below(q-least+1))
}

// near: the messages of k numbers whose words differ from w at r places at most, gone through one by one.
func near(q int, xs []int, k int, w []int, r int) (out [][]int) {
	for message := range hold.Each(q, k) {
		word, _ := reed.Encode(q, xs, message)
		if code.Apart(word, w) <= r {
			out = append(out, message)
		}
	}
	return out
}

// spoiled: the word of a message, other numbers standing at some places, so many at most.
func spoiled(d *hold.Draw, q int, xs []int, k, most int) []int {
	w, _ := reed.Encode(q, xs, d.List(q, k))
	for range most {
		w[d.Below(len(w))] = d.Below(q)
	}
	return w
}

// words: what both calls say of words that may not be.
var words = []struct {
	q    int
	xs   []int
	k    int
	w    []int
	want api.Errno
}{
	{6, []int{0, 1}, 2, []int{0, 0}, api.ErrField}, {6, nil, 0, []int{-1}, api.ErrField}, {math.MinInt, []int{0, 1}, 2, []int{0, 0}, api.ErrField}, {65, hold.UpTo(64), 2, make([]int, 64), api.ErrField},
	{5, nil, 2, nil, api.ErrLimit}, {64, hold.UpTo(65), 2, make([]int, 65), api.ErrLimit}, {5, []int{0, 5}, 2, []int{0, 0}, api.ErrValue}, {5, []int{0, 0}, 2, []int{0, -1}, api.ErrTwice},
	{5, []int{0, 1}, 0, []int{0, 0}, api.ErrCount}, {5, []int{0, 1}, 3, []int{0, -1}, api.ErrCount}, {5, []int{0, 1}, math.MaxInt, []int{0, 0}, api.ErrCount}, {5, []int{0, 1}, math.MinInt, []int{0, 0}, api.ErrCount},
	{5, []int{0, 1}, 2, []int{0}, api.ErrCount}, {5, []int{0, 1}, 2, []int{0, 0, -1}, api.ErrCount}, {5, []int{0, 1}, 2, nil, api.ErrCount},
	{5, []int{0, 1}, 2, []int{0, 5}, api.ErrValue}, {5, []int{0, 1}, 2, []int{-2, 0}, api.ErrValue}, {5, []int{0, 1}, 2, []int{math.MaxInt, 0}, api.ErrValue}, {5, []int{0, 1}, 2, []int{0, math.MinInt}, api.ErrValue},
	{5, []int{0, 1}, 2, []int{0, -1}, api.ErrValue}, {5, []int{0, 1}, 2, []int{-1, -1}, api.ErrValue}, {5, []int{0, 1, 2}, 2, []int{-1, 4, 4}, api.ErrValue},
}

func TestL1Within(t *testing.T) {
	d := hold.Draw(1)
	for _, q := range []int{2, 3, 4, 5, 7, 8, 9, 13} {
		for range 12 {
			xs := places(&d, q, 1)
			k := 1 + d.Below(min(len(xs), 3))
			w := d.List(q, len(xs))
			for _, r := range []int{math.MinInt, -1, 0, d.Below(len(xs) + 1), len(xs) - 1, len(xs), len(xs) + 1, math.MaxInt} {
				got, e := lists.Within(q, xs, k, w, r)
				hold.Same(t, fmt.Sprint("the error of Within ", q, xs, k, w, r), e, api.OK)
				hold.Lists(t, fmt.Sprint("Within ", q, xs, k, w, r), got, near(q, xs, k, w, r)...)
			}
		}
	}
	got, _ := lists.Within(5, hold.UpTo(5), 1, []int{1, 1, 2, 2, 0}, 3)
	hold.Lists(t, "Within 5", got, []int{1}, []int{2})
	got, _ = lists.Within(3, hold.UpTo(3), 2, []int{0, 0, 0}, 2)
	hold.Lists(t, "Within 3", got, []int{0, 0}, []int{0, 1}, []int{0, 2}, []int{1, 1}, []int{1, 2}, []int{2, 1}, []int{2, 2})
	got, _ = lists.Within(2, []int{1, 0}, 2, []int{0, 1}, 2)
	hold.Lists(t, "Within 2", got, []int{0, 0}, []int{0, 1}, []int{1, 0}, []int{1, 1})
}

// TestL1Johnson: messages whose words agree with w at t places, with t^2 above n (k - 1), are few.
func TestL1Johnson(t *testing.T) {
	d := hold.Draw(2)
	most := 0
	for range 100 {
		q := []int{7, 8, 9, 11, 13}[d.Below(5)]
		xs := places(&d, q, 3)
		n, k := len(xs), 2+d.Below(2)
		w := d.List(2+d.Below(q-1), n)
		for agree := k; agree <= n; agree++ {
			over := agree*agree - n*(k-1)
			if over <= 0 {
				continue
			}
			got, e := lists.Within(q, xs, k, w, n-agree)
			hold.Same(t, "the error of Within", e, api.OK)
			if most = max(most, len(got)); len(got)*over > n*(agree-k+1) {
				t.Fatalf("Within %d %v %d %v %d => %v: more than Johnson's bound", q, xs, k, w, n-agree, got)
			}
		}
	}
	if most < 2 {
		t.Fatal("there were never two")
	}
}

func TestL1Limit(t *testing.T) {
	for _, c := range []struct {
		q, k int
		want api.Errno
	}{
		{64, 2, api.OK}, {16, 3, api.OK}, {8, 4, api.OK}, {5, 5, api.OK}, {4, 4, api.OK}, {2, 2, api.OK}, {61, 2, api.OK}, {13, 3, api.OK}, {49, 2, api.OK},
		{64, 3, api.ErrLimit}, {17, 3, api.ErrLimit}, {9, 4, api.ErrLimit}, {16, 4, api.ErrLimit}, {8, 5, api.ErrLimit}, {7, 5, api.ErrLimit}, {7, 7, api.ErrLimit},
		{64, 64, api.ErrLimit}, {64, 11, api.ErrLimit}, {64, 10, api.ErrLimit}, {16, 16, api.ErrLimit}, {61, 61, api.ErrLimit}, {32, 13, api.ErrLimit}, // q^k may be no number of the machine
	} {
		for _, r := range []int{-1, 0} {
			got, e := lists.Within(c.q, hold.UpTo(c.q), c.k, make([]int, c.q), r)
			hold.Same(t, fmt.Sprint("Within ", c.q, c.k), e, c.want)
			if e == api.OK && r == 0 {
				hold.Lists(t, fmt.Sprint("Within ", c.q, c.k), got, make([]int, c.k))
			} else {
				hold.Lists(t, fmt.Sprint("Within ", c.q, c.k), got)
			}
		}
	}
	all, _ := lists.Within(64, hold.UpTo(64), 2, make([]int, 64), 64)
	hold.Same(t, "all messages", len(all), api.MaxWords)
	hold.Lists(t, "the last ones", all[api.MaxWords-2:], []int{63, 62}, []int{63, 63})
}

func TestL1Errors(t *testing.T) {
	for _, c := range words {
		got, e := lists.Within(c.q, c.xs, c.k, c.w, 9)
		hold.Same(t, fmt.Sprint("Within ", c.q, c.xs, c.k, c.w), e, c.want)
		hold.Lists(t, "what is told beside an error", got)
	}
	lost := make([]int, 64)
	lost[63] = -1
	got, e := lists.Within(64, hold.UpTo(64), 64, lost, 0)
	hold.Same(t, "Within of a lost number, and too many messages", e, api.ErrValue)
	hold.Lists(t, "what is told beside an error", got)
}

// lengths: how many coefficients each power of y has: t, then k - 1 less each time; 64 in all.
func lengths(k, t int) (out []int) {
	room := 64
	for long := t; long > 0 && room > 0; long -= k - 1 {
		out = append(out, min(long, room))
		room -= min(long, room)
	}
	return out
}

// at: the value of a sum of products, list by list.
func at(q int, sum [][]int, x, y int) int {
	f, _ := field.New(q)
	value := 0
	for j, list := range sum {
		for i, c := range list {
			value = f.Add(value, f.Mul(c, f.Mul(f.Pow(x, i), f.Pow(y, j))))
		}
	}
	return value
}

// parted: coefficients, by how many each power of y has.
func parted(flat, long []int) (out [][]int) {
	for _, many := range long {
		out, flat = append(out, flat[:many]), flat[many:]
	}
	return out
}

// isNought: is a sum 0 at all places of a word?
func isNought(q int, xs, w []int, sum [][]int) bool {
	for i, x := range xs {
		if at(q, sum, x, w[i]) != 0 {
			return false
		}
	}
	return true
}

// first: of all sums, gone through one by one, the one that begins furthest left, with 1, and is 0 where others begin; none: there is but 0.
func first(q int, xs, w []int, long []int) [][]int {
	many := 0
	for _, v := range long {
		many += v
	}
	var all [][]int
	begins := make([]int, many)
	for flat := range hold.Each(q, many) {
		if isNought(q, xs, w, parted(flat, long)) && code.Weight(flat) > 0 {
			all = append(all, flat)
			begins[slices.IndexFunc(flat, func(v int) bool { return v != 0 })]++
		}
	}
	if len(all) == 0 {
		return nil
	}
	left := slices.IndexFunc(begins, func(v int) bool { return v > 0 })
	for _, flat := range all {
		fits := flat[left] == 1
		for i, v := range begins {
			fits = fits && (i == left || v == 0 || flat[i] == 0)
		}
		if fits {
			return parted(flat, long)
		}
	}
	return nil
}

// TestL2AllSums holds it against all sums of few products.
func TestL2AllSums(t *testing.T) {
	d := hold.Draw(3)
	failed, found := 0, 0
	for _, c := range [][3]int{{2, 2, 1}, {2, 2, 2}, {3, 2, 1}, {3, 2, 2}, {3, 2, 3}, {3, 3, 3}, {4, 2, 3}, {4, 3, 4}, {4, 4, 4}, {5, 2, 2}, {5, 3, 3}, {5, 4, 4}, {7, 4, 3}, {8, 2, 2}, {9, 3, 3}} {
		q, k, most := c[0], c[1], c[2]
		for range 8 {
			xs := places(&d, q, max(k, most))
			w := d.List(q, len(xs))
			if d.Below(3) > 0 {
				w = spoiled(&d, q, xs, k, 1)
			}
			want := first(q, xs, w, lengths(k, most))
			got, e := lists.Sudan(q, xs, k, w, most)
			hold.Lists(t, fmt.Sprint("Sudan ", q, xs, k, w, most), got, want...)
			if want == nil {
				failed++
				hold.Same(t, fmt.Sprint("Sudan ", q, xs, k, w, most), e, api.ErrFail)
			} else {
				found++
				hold.Same(t, fmt.Sprint("Sudan ", q, xs, k, w, most), e, api.OK)
			}
		}
	}
	if failed < 10 || found < 10 {
		t.Fatalf("%d failed, %d were found", failed, found)
	}
}

// TestL2Near: each message whose word agrees at t places makes Curve 0, where all products are there.
func TestL2Near(t *testing.T) {
	d := hold.Draw(4)
	asked := 0
	for range 400 {
		q := []int{5, 7, 8, 9, 11, 13}[d.Below(6)]
		xs := places(&d, q, 4)
		k := 2 + d.Below(2)
		agree := k + d.Below(len(xs)-k+1)
		w := spoiled(&d, q, xs, k, len(xs)-agree)
		sum, e := lists.Sudan(q, xs, k, w, agree)
		if e != api.OK {
			hold.Same(t, "the error of Sudan", e, api.ErrFail)
			continue
		}
		hold.Same(t, fmt.Sprint("Sudan ", q, xs, k, w, agree, " is 0"), isNought(q, xs, w, sum), true)
		for _, message := range near(q, xs, k, w, len(xs)-agree) {
			asked++
			curve, e := lists.Curve(q, sum, message)
			hold.Same(t, "the error of Curve", e, api.OK)
			hold.List(t, fmt.Sprint("Curve ", q, sum, message), curve)
		}
	}
	if asked < 100 {
		t.Fatalf("but %d messages were near", asked)
	}
}

// TestL2SixtyFourProducts: no more are taken.
func TestL2SixtyFourProducts(t *testing.T) {
	line, _ := reed.Encode(64, hold.UpTo(64), []int{5, 9})
	for _, c := range []struct {
		k, t int
		long []int
	}{
		{2, 10, []int{10, 9, 8, 7, 6, 5, 4, 3, 2, 1}}, {2, 11, []int{11, 10, 9, 8, 7, 6, 5, 4, 3, 1}}, {2, 20, []int{20, 19, 18, 7}}, {2, 32, []int{32, 31, 1}}, {2, 33, []int{33, 31}}, {2, 63, []int{63, 1}},
		{3, 15, []int{15, 13, 11, 9, 7, 5, 3, 1}}, {3, 16, []int{16, 14, 12, 10, 8, 4}}, {40, 50, []int{50, 11}}, {40, 52, []int{52, 12}}, {64, 63, []int{63}}, {63, 63, []int{63, 1}},
	} {
		got, e := lists.Sudan(64, hold.UpTo(64), c.k, line, c.t)
		if len(c.long) == 1 { // no x^i alone is 0 at so many places
			hold.Same(t, fmt.Sprint("Sudan 64 ", c.k, c.t), e, api.ErrFail)
			continue
		}
		hold.Same(t, fmt.Sprint("Sudan 64 ", c.k, c.t), e, api.OK)
		var long []int
		for _, list := range got {
			long = append(long, len(list))
		}
		hold.List(t, fmt.Sprint("the lengths of Sudan 64 ", c.k, c.t), long, c.long...)
		hold.Same(t, fmt.Sprint("Sudan 64 ", c.k, c.t, " is 0"), isNought(64, hold.UpTo(64), line, got), true)
		begin := slices.IndexFunc(slices.Concat(got...), func(v int) bool { return v != 0 })
		hold.Same(t, "its beginning", slices.Concat(got...)[begin], 1)
	}
	got, e := lists.Sudan(64, hold.UpTo(64), 2, make([]int, 64), 64)
	hold.Same(t, "Sudan 64 2 64: products of x alone", e, api.ErrFail)
	hold.Lists(t, "what is told beside an error", got)
	got, e = lists.Sudan(64, hold.UpTo(64), 2, make([]int, 64), 63)
	hold.Same(t, "Sudan 64 2 63 of noughts", e, api.OK)
	hold.Lists(t, "Sudan 64 2 63 of noughts", got, make([]int, 63), []int{1})
}

func TestL2Answers(t *testing.T) {
	for _, c := range []struct {
		q    int
		xs   []int
		k    int
		w    []int
		t    int
		want [][]int
	}{
		{5, hold.UpTo(5), 2, []int{1, 1, 2, 2, 0}, 3, [][]int{{1, 4, 3}, {2, 3}, {2}}},
		{5, hold.UpTo(5), 2, []int{0, 0, 0, 0, 0}, 2, [][]int{{0, 0}, {1}}},
		{5, hold.UpTo(5), 2, []int{1, 1, 1, 1, 1}, 2, [][]int{{1, 0}, {4}}},
		{5, hold.UpTo(5), 2, []int{0, 1, 2, 3, 4}, 2, [][]int{{0, 1}, {4}}},
		{3, hold.UpTo(3), 2, []int{0, 1, 1}, 1, nil}, {3, hold.UpTo(3), 3, []int{0, 0, 0}, 2, nil}, {3, hold.UpTo(3), 3, []int{0, 0, 0}, 3, [][]int{{0, 0, 0}, {1}}},
		{2, hold.UpTo(2), 2, []int{1, 0}, 2, [][]int{{1, 1}, {1}}}, // x + y + 1
	} {
		got, e := lists.Sudan(c.q, c.xs, c.k, c.w, c.t)
		want := api.OK
		if c.want == nil {
			want = api.ErrFail
		}
		hold.Same(t, fmt.Sprint("the error of Sudan ", c.q, c.xs, c.k, c.w, c.t), e, want)
		hold.Lists(t, fmt.Sprint("Sudan ", c.q, c.xs, c.k, c.w, c.t), got, c.want...)
	}
}

func TestL2Errors(t *testing.T) {
	for _, c := range words {
		for _, most := range []int{1, 0} {
			got, e := lists.Sudan(c.q, c.xs, c.k, c.w, most)
			hold.Same(t, fmt.Sprint("Sudan ", c.q, c.xs, c.k, c.w, most), e, c.want)
			hold.Lists(t, "what is told beside an error", got)
		}
	}
	for _, c := range []struct {
		k    int
		w    []int
		t    int
		want api.Errno
	}{
		{1, []int{0, 0, 0}, 3, api.ErrCount}, {1, []int{0, 0, 0}, 1, api.ErrCount}, {2, []int{0, 0, 0}, 0, api.ErrCount}, {2, []int{0, 0, 0}, 4, api.ErrCount}, {2, []int{0, 0, 0}, -1, api.ErrCount},
		{2, []int{0, 0, 0}, math.MaxInt, api.ErrCount}, {2, []int{0, 0, 0}, math.MinInt, api.ErrCount}, {1, []int{0, -1, 0}, 0, api.ErrValue}, {2, []int{-1, -1, -1}, 9, api.ErrValue}, {1, []int{0, 0, 7}, 1, api.ErrValue},
		{2, []int{0, 0, 0}, 3, api.OK}, {2, []int{0, 0, 0}, 1, api.ErrFail},
	} {
		got, e := lists.Sudan(5, hold.UpTo(3), c.k, c.w, c.t)
		hold.Same(t, fmt.Sprint("Sudan 5 ", c.k, c.w, c.t), e, c.want)
		if e != api.OK {
			hold.Lists(t, "what is told beside an error", got)
		}
	}
}

// TestL3Curve holds it against powers of y, each times its list.
func TestL3Curve(t *testing.T) {
	d := hold.Draw(5)
	for _, q := range []int{2, 3, 4, 5, 7, 8, 9, 16, 25, 49, 61, 64} {
		for range 20 {
			a := make([][]int, d.Below(6))
			for j := range a {
				a[j] = d.List(q, d.Below(7))
			}
			y := d.List(q, d.Below(6))
			var want []int
			power := []int{1}
			for _, list := range a {
				product, _ := poly.Mul(q, list, power)
				want, _ = poly.Add(q, want, product)
				power, _ = poly.Mul(q, power, y)
			}
			got, e := lists.Curve(q, a, y)
			hold.Same(t, fmt.Sprint("the error of Curve ", q, a, y), e, api.OK)
			hold.List(t, fmt.Sprint("Curve ", q, a, y), got, want...)
		}
	}
}

// ending: noughts, and a 1 behind them.
func ending(many int) []int { return append(make([]int, many-1), 1) }

func TestL3Answers(t *testing.T) {
	for _, c := range []struct {
		a       [][]int
		y, want []int
	}{
		{nil, []int{1, 1}, nil}, {nil, nil, nil}, {[][]int{nil, nil}, []int{1, 1}, nil}, {[][]int{{3, 0, 0}}, []int{1, 1}, []int{3}}, {[][]int{{3}}, nil, []int{3}}, {[][]int{{1, 2}, {1, 1}}, nil, []int{1, 2}},
		{[][]int{{1}, {1}, {1}}, []int{0, 1}, []int{1, 1, 1}}, {[][]int{{0, 4}, {1}}, []int{0, 1, 0, 0}, nil}, {[][]int{{1, 4, 3}, {2, 3}, {2}}, []int{1}, []int{0, 2, 3}},
		{[][]int{{2}, nil, {1, 0}}, []int{1, 1}, []int{3, 2, 1}}, {[][]int{nil, ending(64)}, ending(65), ending(128)}, {[][]int{ending(128)}, ending(128), ending(128)},
		{[][]int{{1}, nil, nil}, ending(128), []int{1}}, {make([][]int, 64), ending(128), nil}, {[][]int{{1}, {2}}, ending(128), append([]int{1}, append(make([]int, 126), 2)...)},
	} {
		got, e := lists.Curve(5, c.a, c.y)
		hold.Same(t, fmt.Sprint("the error of Curve ", c.a, c.y), e, api.OK)
		hold.List(t, fmt.Sprint("Curve ", c.a, c.y), got, c.want...)
	}
	ones := slices.Repeat([][]int{{1}}, 64)
	got, e := lists.Curve(2, ones, []int{0, 1})
	hold.Same(t, "the error of Curve of 64 lists", e, api.OK)
	hold.List(t, "Curve of 64 lists", got, slices.Repeat([]int{1}, 64)...)
}

func TestL3Errors(t *testing.T) {
	long, many, bad := make([]int, 129), make([][]int, 65), []int{5}
	for _, c := range []struct {
		q    int
		a    [][]int
		y    []int
		want api.Errno
	}{
		{6, nil, nil, api.ErrField}, {6, many, bad, api.ErrField}, {5, nil, long, api.ErrLimit}, {5, nil, bad, api.ErrValue}, {5, nil, []int{0, -1}, api.ErrValue}, {5, many, bad, api.ErrValue},
		{5, many, nil, api.ErrLimit}, {5, append([][]int{bad}, many[1:]...), nil, api.ErrLimit}, {5, [][]int{long}, nil, api.ErrLimit}, {5, [][]int{bad}, nil, api.ErrValue}, {5, [][]int{{1}, bad}, nil, api.ErrValue},
		{5, [][]int{{math.MinInt}, {1}}, []int{1}, api.ErrValue}, {5, [][]int{{1}, {0, math.MaxInt}}, []int{1}, api.ErrValue},
		{5, [][]int{long, bad}, nil, api.ErrValue}, {5, [][]int{bad, long}, nil, api.ErrLimit}, // from the last list on
		{5, [][]int{bad, ending(128)}, []int{0, 1}, api.ErrLimit}, {5, [][]int{bad, ending(127)}, []int{0, 1}, api.ErrValue}, // the product ahead of the list
		{5, [][]int{nil, ending(128)}, []int{0, 1}, api.ErrLimit}, {5, [][]int{nil, ending(64)}, ending(66), api.ErrLimit},
		{5, [][]int{nil, nil, {1}}, ending(65), api.ErrLimit}, {5, [][]int{nil, ending(128), {4}}, []int{0, 1}, api.ErrLimit},
	} {
		got, e := lists.Curve(c.q, c.a, c.y)
		hold.Same(t, fmt.Sprint("Curve ", c.q, c.a, c.y), e, c.want)
		hold.List(t, "what is told beside an error", got)
	}
}

func TestListsAreTheCallers(t *testing.T) {
	var handed hold.Handed
	xs, w, y, low, high := handed.List(0, 1, 2, 3, 4), handed.List(1, 1, 2, 2, 0), handed.List(1, 1, 0), handed.List(1, 4, 3), handed.List(2, 0)
	var out [][]int
	for range 2 {
		within, _ := lists.Within(5, xs, 2, w, 3)
		sum, _ := lists.Sudan(5, xs, 2, w, 3)
		curve, _ := lists.Curve(5, [][]int{low, high}, y)
		only, _ := lists.Curve(5, [][]int{low}, y)
		out = slices.Concat(out, within, sum, [][]int{curve, only})
	}
	handed.Apart(t, out...)
}
