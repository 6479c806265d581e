package gap_test

import (
	"fmt"
	"iter"
	"math"
	"slices"
	"testing"

	"syndrome/api"
	"syndrome/gap"
	"syndrome/hold"
)

// notBits: numbers of which none is a bit, some of them bits to who looks at a few of their digits alone.
var notBits = []int{-1, 2, 3, 256, 1 << 32, 1<<32 + 1, math.MinInt, math.MaxInt}

// upTo goes through all words of so many bits at most.
func upTo(most int) iter.Seq[[]int] {
	return func(yield func([]int) bool) {
		for n := range most + 1 {
			for word := range hold.Each(2, n) {
				if !yield(word) {
					return
				}
			}
		}
	}
}

// left is what is left of the sum of the places of a word's ones, counted one by one.
func left(word []int) int {
	out := 0
	for i, b := range word {
		for range i + 1 {
			if out += b; out > len(word) {
				out = 0
			}
		}
	}
	return out
}

// lose is a word without the bit at a place.
func lose(word []int, at int) []int { return slices.Delete(slices.Clone(word), at, at+1) }

// loses says whether a word becomes another by losing one bit.
func loses(word, becomes []int) bool {
	for i := range word {
		if slices.Equal(lose(word, i), becomes) {
			return true
		}
	}
	return false
}

func TestV1Check(t *testing.T) {
	for word := range upTo(api.MaxGap + 1) {
		hold.Same(t, fmt.Sprint("Check ", word), gap.Check(word), api.OK)
	}
	hold.Same(t, "Check of no list", gap.Check(nil), api.OK)
	for many := api.MaxGap + 2; many < 40; many++ {
		word := make([]int, many)
		hold.Same(t, fmt.Sprint("Check of ", many), gap.Check(word), api.ErrLimit)
		word[0] = 2
		hold.Same(t, fmt.Sprint("Check of no bits, ", many), gap.Check(word), api.ErrLimit)
	}
	for _, v := range notBits {
		for many := 1; many <= api.MaxGap+1; many++ {
			for at := range many {
				word := make([]int, many)
				word[at] = v
				hold.Same(t, fmt.Sprint("Check ", word), gap.Check(word), api.ErrValue)
			}
		}
	}
}

func TestV1Words(t *testing.T) {
	for n := 1; n <= api.MaxGap; n++ {
		want := make([][][]int, n+1)
		for word := range hold.Each(2, n) {
			a := left(word)
			want[a] = append(want[a], word)
		}
		for a := range n + 1 {
			got, e := gap.Words(n, a)
			hold.Same(t, "Words' error", e, api.OK)
			hold.Lists(t, fmt.Sprint("Words ", n, a), got, want[a]...)
		}
	}
	got, _ := gap.Words(4, 0)
	hold.Lists(t, "Words 4 0", got, []int{0, 0, 0, 0}, []int{0, 1, 1, 0}, []int{1, 0, 0, 1}, []int{1, 1, 1, 1})
	got, _ = gap.Words(1, 1)
	hold.Lists(t, "Words 1 1", got, []int{1})
}

// wrongSums: which n and a there are no words of.
var wrongSums = []struct {
	n, a int
	want api.Errno
}{
	{0, 0, api.ErrLimit}, {-1, 0, api.ErrLimit}, {api.MaxGap + 1, 0, api.ErrLimit},
	{math.MinInt, 0, api.ErrLimit}, {math.MaxInt, 0, api.ErrLimit}, {1<<32 + 4, 0, api.ErrLimit},
	{1, -1, api.ErrPlace}, {1, 2, api.ErrPlace}, {4, 5, api.ErrPlace}, {4, -1, api.ErrPlace},
	{api.MaxGap, api.MaxGap + 1, api.ErrPlace}, {api.MaxGap, math.MaxInt, api.ErrPlace},
	{api.MaxGap, math.MinInt, api.ErrPlace}, {4, 1 << 32, api.ErrPlace},
	{0, -1, api.ErrLimit}, {13, 14, api.ErrLimit}, {-1, math.MaxInt, api.ErrLimit},
}

func TestV1WordsErrors(t *testing.T) {
	for _, c := range wrongSums {
		what := fmt.Sprint("Words ", c.n, " ", c.a)
		got, e := gap.Words(c.n, c.a)
		hold.Same(t, what, e, c.want)
		hold.Lists(t, what, got)
	}
}

// mended is what Mend should tell: of all words that may have been sent the one that becomes w.
func mended(t *testing.T, n, a int, w []int) ([]int, bool) {
	t.Helper()
	words, _ := gap.Words(n, a)
	var out [][]int
	for _, word := range words {
		if slices.Equal(word, w) || loses(word, w) || loses(w, word) {
			out = append(out, word)
		}
	}
	if len(out) == 0 {
		return nil, false
	}
	hold.Same(t, "how many there are", len(out), 1)
	return out[0], true
}

// sameMend ends a test, unless Mend tells what it should.
func sameMend(t *testing.T, n, a int, w []int) {
	t.Helper()
	what := fmt.Sprint("Mend ", n, " ", a, " ", w)
	want, is := mended(t, n, a, w)
	got, ok, e := gap.Mend(n, a, w)
	hold.Same(t, what, e, api.OK)
	hold.Same(t, what, ok, is)
	hold.List(t, what, got, want...)
}

func TestV2Mend(t *testing.T) {
	for n := 1; n <= 6; n++ {
		for a := range n + 1 {
			for w := range upTo(n + 3) {
				sameMend(t, n, a, w)
			}
		}
	}
}

func TestV2MendLong(t *testing.T) {
	d := hold.Draw(16)
	for n := 7; n <= api.MaxGap; n++ {
		for range 60 {
			sameMend(t, n, d.Below(n+1), d.List(2, n-1+d.Below(3)))
		}
	}
	sameMend(t, api.MaxGap, 0, make([]int, api.MaxGap+1))
}

// TestV2MendSent: each word that is sent is told again, whatever it loses or gets.
func TestV2MendSent(t *testing.T) {
	for n := 1; n <= 9; n++ {
		for a := range n + 1 {
			words, _ := gap.Words(n, a)
			for _, word := range words {
				came := [][]int{word}
				for i := range n {
					came = append(came, lose(word, i))
				}
				for i := range n + 1 {
					came = append(came, slices.Insert(slices.Clone(word), i, 0), slices.Insert(slices.Clone(word), i, 1))
				}
				for _, w := range came {
					got, ok, e := gap.Mend(n, a, w)
					hold.Same(t, "Mend's error", e, api.OK)
					hold.Same(t, "Mend's bool", ok, true)
					hold.List(t, fmt.Sprint("Mend ", n, " ", a, " ", w), got, word...)
				}
			}
		}
	}
}

func TestV2MendExamples(t *testing.T) {
	for _, c := range []struct {
		n, a    int
		w, want []int
		ok      bool
	}{
		{4, 0, []int{1, 0, 1}, []int{1, 0, 0, 1}, true},
		{5, 2, []int{1, 0, 1, 1, 0}, []int{1, 0, 1, 1, 0}, true},
		{4, 1, []int{1, 0, 1, 1, 0}, []int{1, 1, 1, 0}, true},
		{1, 0, nil, []int{0}, true},
		{1, 1, nil, []int{1}, true},
		{4, 0, []int{1, 0, 0, 0}, nil, false},
		{2, 0, nil, nil, false},
		{4, 0, []int{0, 0}, nil, false},
		{4, 0, []int{0, 0, 0, 0, 0, 0}, nil, false},
		{1, 0, make([]int, api.MaxGap+1), nil, false},
	} {
		what := fmt.Sprint("Mend ", c.n, " ", c.a, " ", c.w)
		got, ok, e := gap.Mend(c.n, c.a, c.w)
		hold.Same(t, what, e, api.OK)
		hold.Same(t, what, ok, c.ok)
		hold.List(t, what, got, c.want...)
	}
}

// sameMendError ends a test, unless Mend tells an error, and nothing beside it.
func sameMendError(t *testing.T, n, a int, w []int, want api.Errno) {
	t.Helper()
	what := fmt.Sprint("Mend ", n, " ", a, " ", w)
	got, ok, e := gap.Mend(n, a, w)
	hold.Same(t, what, e, want)
	hold.Same(t, what, ok, false)
	hold.List(t, what, got)
}

func TestV2MendErrors(t *testing.T) {
	for _, c := range wrongSums {
		for _, w := range [][]int{nil, {0, 0, 0, 0}, {2}, make([]int, 14)} {
			sameMendError(t, c.n, c.a, w, c.want)
		}
	}
	sameMendError(t, 4, 0, make([]int, api.MaxGap+2), api.ErrLimit)
	sameMendError(t, 4, 0, append(make([]int, api.MaxGap+1), 2), api.ErrLimit)
	for _, v := range notBits {
		sameMendError(t, 4, 0, []int{0, 0, 0, v}, api.ErrValue)
		sameMendError(t, 4, 0, []int{v, 0, 0}, api.ErrValue)
		sameMendError(t, 4, 0, []int{0, 0, v, 0, 0}, api.ErrValue)
		sameMendError(t, 4, 0, []int{v}, api.ErrValue)
	}
}

// TestV3Steps: words are reached one bit after the other.
func TestV3Steps(t *testing.T) {
	const most = 6
	for from := range upTo(most) {
		steps := map[string]int{fmt.Sprint(from): 0}
		for ways := [][]int{from}; len(ways) > 0; ways = ways[1:] {
			now := steps[fmt.Sprint(ways[0])]
			for _, to := range oneBit(ways[0], most) {
				if _, seen := steps[fmt.Sprint(to)]; !seen {
					steps[fmt.Sprint(to)] = now + 1
					ways = append(ways, to)
				}
			}
		}
		for to := range upTo(most) {
			got, e := gap.Steps(from, to)
			hold.Same(t, "Steps' error", e, api.OK)
			hold.Same(t, fmt.Sprint("Steps ", from, to), got, steps[fmt.Sprint(to)])
		}
	}
}

// oneBit are the words of so many bits at most that come of one by losing or getting one bit.
func oneBit(word []int, most int) (out [][]int) {
	for i := range word {
		out = append(out, lose(word, i))
	}
	if len(word) < most {
		for i := range len(word) + 1 {
			out = append(out, slices.Insert(slices.Clone(word), i, 0), slices.Insert(slices.Clone(word), i, 1))
		}
	}
	return out
}

// parts are all words that come of one by losing any of its bits.
func parts(word []int) map[string]int {
	out := map[string]int{}
	for which := range 1 << len(word) {
		var part []int
		for i, b := range word {
			if which>>i&1 == 1 {
				part = append(part, b)
			}
		}
		out[fmt.Sprint(part)] = len(part)
	}
	return out
}

// TestV3StepsLong: what both can become by losing bits alone stays, all else is lost and got.
func TestV3StepsLong(t *testing.T) {
	d := hold.Draw(17)
	for range 25 {
		a, b := d.List(2, 7+d.Below(7)), d.List(2, 7+d.Below(7))
		stays, other := 0, parts(b)
		for part, many := range parts(a) {
			if _, both := other[part]; both {
				stays = max(stays, many)
			}
		}
		got, e := gap.Steps(a, b)
		hold.Same(t, "Steps' error", e, api.OK)
		hold.Same(t, fmt.Sprint("Steps ", a, b), got, len(a)+len(b)-2*stays)
	}
	got, _ := gap.Steps([]int{1, 0, 1}, []int{0, 1, 1, 0})
	hold.Same(t, "Steps of the document", got, 3)
	zeros, ones := make([]int, api.MaxGap+1), slices.Repeat([]int{1}, api.MaxGap+1)
	got, _ = gap.Steps(zeros, ones)
	hold.Same(t, "Steps of all bits", got, 26)
	got, _ = gap.Steps(nil, ones)
	hold.Same(t, "Steps of none", got, 13)
}

func TestV3StepsErrors(t *testing.T) {
	good, long := []int{1, 0, 1}, make([]int, api.MaxGap+2)
	for _, c := range []struct {
		a, b []int
		want api.Errno
	}{
		{long, good, api.ErrLimit}, {good, long, api.ErrLimit},
		{[]int{2}, good, api.ErrValue}, {good, []int{0, -1}, api.ErrValue},
		{[]int{2}, long, api.ErrValue}, {long, []int{2}, api.ErrLimit},
		{nil, []int{math.MaxInt}, api.ErrValue}, {[]int{math.MinInt}, nil, api.ErrValue},
	} {
		got, e := gap.Steps(c.a, c.b)
		hold.Same(t, fmt.Sprint("Steps ", c.a, c.b), e, c.want)
		hold.Same(t, "told beside an error", got, 0)
	}
}

func TestV3Ball(t *testing.T) {
	for word := range upTo(api.MaxGap + 1) {
		var want [][]int
		for i := range word {
			want = append(want, lose(word, i))
		}
		slices.SortFunc(want, slices.Compare)
		want = slices.CompactFunc(want, slices.Equal)
		got, e := gap.Ball(word)
		hold.Same(t, "Ball's error", e, api.OK)
		hold.Lists(t, fmt.Sprint("Ball ", word), got, want...)
	}
	got, _ := gap.Ball([]int{1})
	hold.Lists(t, "Ball of one bit", got, nil)
	got, e := gap.Ball(nil)
	hold.Same(t, "Ball of no bits", e, api.OK)
	hold.Lists(t, "Ball of no bits", got)
}

func TestV3BallErrors(t *testing.T) {
	for _, c := range []struct {
		w    []int
		want api.Errno
	}{
		{make([]int, api.MaxGap+2), api.ErrLimit},
		{append(make([]int, api.MaxGap+1), 7), api.ErrLimit},
		{[]int{0, 1, 2}, api.ErrValue}, {[]int{-1}, api.ErrValue}, {[]int{0, 1<<32 + 1}, api.ErrValue},
	} {
		got, e := gap.Ball(c.w)
		hold.Same(t, fmt.Sprint("Ball ", c.w), e, c.want)
		hold.Lists(t, "told beside an error", got)
	}
}

func TestListsAreTheCallers(t *testing.T) {
	var handed hold.Handed
	whole, less, more := handed.List(1, 0, 0, 1), handed.List(1, 0, 1), handed.List(1, 0, 0, 0, 1)
	none := handed.List()
	first, _ := gap.Words(4, 0)
	second, _ := gap.Words(4, 0)
	ball, _ := gap.Ball(more)
	out := slices.Concat(first, second, ball)
	for _, w := range [][]int{whole, less, more} {
		word, _, _ := gap.Mend(4, 0, w)
		hold.List(t, fmt.Sprint("Mend ", w), word, 1, 0, 0, 1)
		out = append(out, word)
	}
	word, _, _ := gap.Mend(1, 1, none)
	hold.List(t, "Mend of no bits", word, 1)
	gap.Check(whole)
	gap.Steps(less, more)
	handed.Apart(t, append(out, word)...)
}
