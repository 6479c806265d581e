package muller_test

import (
	"cmp"
	"fmt"
	"math"
	"math/bits"
	"slices"
	"testing"

	"syndrome/api"
	"syndrome/code"
	"syndrome/hold"
	"syndrome/muller"
)

// kinds: the codes that may not be.
var kinds = []struct {
	r, m int
	want api.Errno
}{
	{0, 0, api.ErrLimit}, {0, -1, api.ErrLimit}, {0, 6, api.ErrLimit}, {0, math.MinInt, api.ErrLimit}, {0, math.MaxInt, api.ErrLimit}, {-1, 0, api.ErrLimit}, {7, 6, api.ErrLimit},
	{-1, 3, api.ErrCount}, {4, 3, api.ErrCount}, {2, 1, api.ErrCount}, {6, 5, api.ErrCount}, {math.MinInt, 5, api.ErrCount}, {math.MaxInt, 1, api.ErrCount},
}

// each: all codes that may be.
func each(see func(r, m int)) {
	for m := 1; m <= 5; m++ {
		for r := range m + 1 {
			see(r, m)
		}
	}
}

// sorted: the monomials in order, by sorting all numbers.
func sorted(r, m int) []int {
	all := hold.UpTo(1 << m)
	slices.SortStableFunc(all, func(a, b int) int { return cmp.Compare(bits.OnesCount(uint(a)), bits.OnesCount(uint(b))) })
	return slices.DeleteFunc(all, func(s int) bool { return bits.OnesCount(uint(s)) > r })
}

// value: what a sum of monomials is at a place, the variables being its bits.
func value(message, all []int, x int) int {
	sum := 0
	for i, s := range all {
		product := message[i]
		for v := range 5 {
			if s>>v&1 == 1 {
				product *= x >> v & 1
			}
		}
		sum += product
	}
	return sum % 2
}

func wordOf(r, m int, message []int) []int {
	word := make([]int, 1<<m)
	for x := range word {
		word[x] = value(message, sorted(r, m), x)
	}
	return word
}

// spoiled: a word with so many bits turned.
func spoiled(d *hold.Draw, word []int, errors int) []int {
	out := slices.Clone(word)
	for _, place := range d.Different(len(word), errors) {
		out[place] ^= 1
	}
	return out
}

func TestU1Check(t *testing.T) {
	for _, c := range kinds {
		hold.Same(t, fmt.Sprint("Check ", c.r, c.m), muller.Check(c.r, c.m), c.want)
	}
	each(func(r, m int) { hold.Same(t, fmt.Sprint("Check ", r, m), muller.Check(r, m), api.OK) })
}

func TestU1AllCallsCheck(t *testing.T) {
	for _, c := range kinds {
		got, e := muller.Code(c.r, c.m)
		hold.Same(t, "Code's error", e, c.want)
		hold.Code(t, "beside an error", got, api.Code{})
		for _, list := range [][]int{nil, {2}, make([]int, 8)} {
			word, e := muller.Encode(c.r, c.m, list)
			hold.Same(t, "Encode's error", e, c.want)
			hold.List(t, "beside an error", word)
			notTold(t, c.r, c.m, list, c.want)
		}
	}
}

// TestU1Order: the words of the single monomials, one by one, as they are counted by hand.
func TestU1Order(t *testing.T) {
	for m, all := range map[int][]int{1: {0, 1}, 2: {0, 1, 2, 3}, 3: {0, 1, 2, 4, 3, 5, 6, 7}, 4: {0, 1, 2, 4, 8, 3, 5, 6, 9, 10, 12, 7, 11, 13, 14, 15}} {
		for i, s := range all {
			message := make([]int, len(all))
			message[i] = 1
			word, e := muller.Encode(m, m, message)
			hold.Same(t, "Encode's error", e, api.OK)
			for x, bit := range word {
				hold.Same(t, fmt.Sprint("monomial ", s, " at ", x), bit == 1, x|s == x)
			}
		}
	}
}

func TestU1Code(t *testing.T) {
	c, _ := muller.Code(1, 3)
	hold.Code(t, "Code 1 3", c, api.Code{Q: 2, N: 8, Rows: [][]int{{1, 0, 0, 1, 0, 1, 1, 0}, {0, 1, 0, 1, 0, 1, 0, 1}, {0, 0, 1, 1, 0, 0, 1, 1}, {0, 0, 0, 0, 1, 1, 1, 1}}})
	each(func(r, m int) {
		what := fmt.Sprint("Code ", r, m)
		c, e := muller.Code(r, m)
		hold.Same(t, what, e, api.OK)
		want := api.Code{Q: 2, N: 1 << m}
		for i := range sorted(r, m) {
			message := make([]int, len(sorted(r, m)))
			message[i] = 1
			want.Rows = append(want.Rows, wordOf(r, m, message))
		}
		want, _ = code.Make(want)
		hold.Code(t, what, c, want)
		hold.Same(t, what+": its dimension", len(c.Rows), len(sorted(r, m)))
		dual, _ := code.Dual(c)
		other := api.Code{Q: 2, N: 1 << m} // of r = m the word of noughts alone
		if r < m {
			other, _ = muller.Code(m-r-1, m)
		}
		hold.Code(t, what+": its dual", dual, other)
		if least, e := code.Distance(c); e == api.OK {
			hold.Same(t, what+": its distance", least, 1<<(m-r))
		}
	})
}

func TestU1Encode(t *testing.T) {
	d := hold.Draw(1)
	each(func(r, m int) {
		for range 40 {
			message := d.List(2, len(sorted(r, m)))
			word, e := muller.Encode(r, m, message)
			hold.Same(t, "Encode's error", e, api.OK)
			hold.List(t, fmt.Sprint("Encode ", r, m, message), word, wordOf(r, m, message)...)
		}
	})
}

func TestU1EncodeErrors(t *testing.T) {
	for _, c := range []struct {
		r, m    int
		message []int
		want    api.Errno
	}{
		{1, 3, nil, api.ErrCount}, {1, 3, make([]int, 3), api.ErrCount}, {1, 3, make([]int, 5), api.ErrCount}, {1, 3, []int{0, 0, 0, 0, 2}, api.ErrCount}, {1, 3, []int{2}, api.ErrCount},
		{1, 3, []int{0, 0, 0, 2}, api.ErrValue}, {1, 3, []int{-1, 0, 0, 0}, api.ErrValue}, {1, 3, []int{0, math.MinInt, 0, 0}, api.ErrValue}, {1, 3, []int{0, 0, math.MaxInt, 0}, api.ErrValue},
		{0, 5, nil, api.ErrCount}, {0, 5, []int{2}, api.ErrValue}, {5, 5, make([]int, 31), api.ErrCount}, {5, 5, make([]int, 33), api.ErrCount},
	} {
		word, e := muller.Encode(c.r, c.m, c.message)
		hold.Same(t, fmt.Sprint("Encode ", c.r, c.m, c.message), e, c.want)
		hold.List(t, "beside an error", word)
	}
}

// notTold: is there no message, with that error?
func notTold(t *testing.T, r, m int, w []int, want api.Errno) {
	t.Helper()
	what := fmt.Sprint("Decode ", r, m, w)
	message, errors, ok, e := muller.Decode(r, m, w)
	hold.Same(t, what, e, want)
	hold.Same(t, what, ok, false)
	hold.Same(t, what, errors, 0)
	hold.List(t, what, message)
}

func told(t *testing.T, r, m int, w, message []int, errors int) {
	t.Helper()
	what := fmt.Sprint("Decode ", r, m, w)
	got, many, ok, e := muller.Decode(r, m, w)
	hold.Same(t, what, e, api.OK)
	hold.Same(t, what, ok, true)
	hold.List(t, what, got, message...)
	hold.Same(t, what, many, errors)
}

// asMessagesTell holds what Decode tells of a word against all messages, each with its word.
func asMessagesTell(t *testing.T, r, m int, w []int, messages, words [][]int) {
	t.Helper()
	for i, word := range words {
		if errors := code.Apart(word, w); 2*errors < 1<<(m-r) {
			told(t, r, m, w, messages[i], errors)
			return
		}
	}
	notTold(t, r, m, w, api.OK)
}

func TestU2AllMessages(t *testing.T) {
	d := hold.Draw(2)
	each(func(r, m int) {
		if len(sorted(r, m)) > 11 {
			return
		}
		var messages, words [][]int
		for message := range hold.Each(2, len(sorted(r, m))) {
			messages, words = append(messages, message), append(words, wordOf(r, m, message))
		}
		if m <= 3 {
			for w := range hold.Each(2, 1<<m) {
				asMessagesTell(t, r, m, w, messages, words)
			}
			return
		}
		for range 300 {
			w := d.List(2, 1<<m)
			asMessagesTell(t, r, m, w, messages, words)
			near := words[d.Below(len(words))]
			asMessagesTell(t, r, m, spoiled(&d, near, d.Below(1<<(m-r)+1)), messages, words)
		}
	})
}

func TestU2FewErrors(t *testing.T) {
	d := hold.Draw(3)
	each(func(r, m int) {
		for errors := 0; 2*errors < 1<<(m-r); errors++ {
			for range 60 {
				message := d.List(2, len(sorted(r, m)))
				told(t, r, m, spoiled(&d, wordOf(r, m, message), errors), message, errors)
			}
		}
	})
}

// TestU2HalfTheDistance: of so many errors two words may be as near, or another one nearer; it isn't told which.
func TestU2HalfTheDistance(t *testing.T) {
	each(func(r, m int) {
		if r == m {
			return
		}
		w := make([]int, 1<<m)
		for i := range 1 << (m - r - 1) {
			w[i<<r] = 1 // half of the places of a word of the least weight
		}
		notTold(t, r, m, w, api.OK)
		w[0] = 0
		told(t, r, m, w, make([]int, len(sorted(r, m))), 1<<(m-r-1)-1)
	})
}

func TestU2Errors(t *testing.T) {
	for _, c := range []struct {
		w    []int
		want api.Errno
	}{
		{nil, api.ErrCount}, {make([]int, 7), api.ErrCount}, {make([]int, 9), api.ErrCount}, {slices.Repeat([]int{2}, 9), api.ErrCount},
		{[]int{0, 0, 0, 0, 0, 0, 0, 2}, api.ErrValue}, {[]int{-1, 0, 0, 0, 0, 0, 0, 0}, api.ErrValue}, {[]int{0, math.MinInt, 0, 0, 0, 0, 0, 0}, api.ErrValue}, {[]int{0, 0, math.MaxInt, 0, 0, 0, 0, 0}, api.ErrValue},
	} {
		for r := range 4 {
			notTold(t, r, 3, c.w, c.want)
		}
	}
}

func TestListsAreTheCallers(t *testing.T) {
	var handed hold.Handed
	message, w := handed.List(1, 0, 1, 1), handed.List(0, 1, 1, 1, 1, 1, 1, 1)
	var out [][]int
	for range 2 {
		c, _ := muller.Code(1, 3)
		word, _ := muller.Encode(1, 3, message)
		got, _, ok, _ := muller.Decode(1, 3, w)
		hold.Same(t, "it is told", ok, true)
		out = append(append(out, c.Rows...), word, got)
	}
	handed.Apart(t, out...)
}
