package golay_test

import (
	"fmt"
	"math"
	"slices"
	"testing"

	"syndrome/api"
	"syndrome/code"
	"syndrome/golay"
	"syndrome/hold"
)

var hamming = api.Code{Q: 2, N: 7, Rows: [][]int{{1, 1, 0, 1, 0, 0, 0}, {0, 1, 1, 0, 1, 0, 0}, {0, 0, 1, 1, 0, 1, 0}, {0, 0, 0, 1, 1, 0, 1}}}

// wrong: codes that Weights refuses, by all its errors.
var wrong = []api.Code{
	{}, {Q: 6, N: 65}, {Q: 2}, {Q: 2, N: 65}, {Q: 2, N: math.MinInt}, {Q: 2, N: 1, Rows: [][]int{{}}}, {Q: 2, N: 1, Rows: make([][]int, 65)},
	{Q: 2, N: 1, Rows: [][]int{{2}}}, {Q: 2, N: 1, Rows: [][]int{{-1}}}, {Q: 3, N: 1, Rows: [][]int{{0, 2}}}, hold.AllWords(2, 13), hold.AllWords(64, 3), hold.AllWords(64, 64),
}

// alike: the code of words that have the same number at all places.
func alike(q, n int) api.Code {
	return api.Code{Q: q, N: n, Rows: [][]int{slices.Repeat([]int{1}, n)}}
}

// anyCode draws one that is small enough to go through all words of its length.
func anyCode(d *hold.Draw) api.Code {
	kind := [][2]int{{2, 7}, {2, 5}, {3, 5}, {4, 4}, {5, 3}, {9, 2}}[d.Below(6)]
	n := 1 + d.Below(kind[1])
	return api.Code{Q: kind[0], N: n, Rows: d.Matrix(kind[0], d.Below(min(n+2, 6)), n)}
}

// wordsOf: all words of a code, one by one.
func wordsOf(t *testing.T, c api.Code) (out [][]int) {
	t.Helper()
	one, e := code.Make(c)
	hold.Same(t, "Make's error", e, api.OK)
	for message := range hold.Each(c.Q, len(one.Rows)) {
		word, _ := code.Encode(one, message)
		out = append(out, word)
	}
	return out
}

// multiples: all products of g and lists of so many numbers below a prime, with the number behind them that makes their sum 0.
func multiples(q, n int, g []int) (out [][]int) {
	for times := range hold.Each(q, n-len(g)+1) {
		word, sum := make([]int, n+1), 0
		for i, a := range times {
			for j, b := range g {
				word[i+j] = (word[i+j] + a*b) % q
			}
		}
		for _, v := range word {
			sum += v
		}
		word[n] = (q - sum%q) % q
		out = append(out, word)
	}
	return out
}

func TestG1WordsAreMultiples(t *testing.T) {
	for _, c := range []struct {
		c    api.Code
		q, n int
		g    []int
	}{
		{golay.Binary(), 2, 23, []int{1, 0, 1, 0, 1, 1, 1, 0, 0, 0, 1, 1}},
		{golay.Ternary(), 3, 11, []int{2, 0, 1, 2, 1, 1}},
	} {
		one, e := code.Make(c.c)
		hold.Same(t, "Make's error", e, api.OK)
		hold.Code(t, "its one form", c.c, one)
		hold.Same(t, "its field", c.c.Q, c.q)
		hold.Same(t, "its length", c.c.N, c.n+1)
		got, want := wordsOf(t, c.c), multiples(c.q, c.n, c.g)
		slices.SortFunc(got, slices.Compare)
		slices.SortFunc(want, slices.Compare)
		hold.Lists(t, "its words", got, want...)
	}
}

func TestG1WeightsAndDuals(t *testing.T) {
	for _, c := range []struct {
		c    api.Code
		want map[int]int
	}{
		{golay.Binary(), map[int]int{0: 1, 8: 759, 12: 2576, 16: 759, 24: 1}},
		{golay.Ternary(), map[int]int{0: 1, 6: 264, 9: 440, 12: 24}},
	} {
		many, e := code.Weights(c.c)
		hold.Same(t, "Weights's error", e, api.OK)
		for weight, words := range many {
			hold.Same(t, fmt.Sprint("words of weight ", weight), words, c.want[weight])
		}
		dual, _ := code.Dual(c.c)
		hold.Code(t, "its own dual", dual, c.c)
	}
}

// blocks: the sets of places at which words of a weight are not 0, in order, each once.
func blocks(words [][]int, weight int) (out [][]int) {
	for _, word := range words {
		var places []int
		for place, v := range word {
			if v != 0 {
				places = append(places, place)
			}
		}
		if len(places) == weight {
			out = append(out, places)
		}
	}
	slices.SortFunc(out, slices.Compare)
	return slices.CompactFunc(out, slices.Equal)
}

func TestG2Blocks(t *testing.T) {
	d := hold.Draw(1)
	for range 150 {
		c := anyCode(&d)
		words := wordsOf(t, c)
		for weight := 1; weight <= c.N; weight++ {
			got, e := golay.Blocks(c, weight)
			hold.Same(t, "Blocks's error", e, api.OK)
			hold.Lists(t, fmt.Sprint("Blocks ", c, weight), got, blocks(words, weight)...)
		}
	}
	for _, c := range []struct {
		c            api.Code
		weight, many int
		first        []int
	}{
		{golay.Binary(), 8, 759, []int{0, 1, 2, 3, 4, 7, 10, 12}}, {golay.Binary(), 24, 1, hold.UpTo(24)}, {golay.Binary(), 7, 0, nil},
		{golay.Ternary(), 6, 132, nil}, {golay.Ternary(), 9, 220, nil}, {golay.Ternary(), 12, 1, hold.UpTo(12)},
	} {
		got, e := golay.Blocks(c.c, c.weight)
		hold.Same(t, "Blocks's error", e, api.OK)
		hold.Same(t, "how many blocks", len(got), c.many)
		if c.first != nil {
			hold.List(t, "the first block", got[0], c.first...)
		}
		hold.Lists(t, "Blocks", got, blocks(wordsOf(t, c.c), c.weight)...)
	}
}

func TestG2BlocksAtTheEnds(t *testing.T) {
	got, _ := golay.Blocks(alike(4, 64), 64)
	hold.Lists(t, "the longest words", got, hold.UpTo(64))
	last := api.Code{Q: 64, N: 64, Rows: [][]int{append(make([]int, 62), 7, 9)}}
	got, _ = golay.Blocks(last, 2)
	hold.Lists(t, "the last places", got, []int{62, 63})
	got, _ = golay.Blocks(hold.AllWords(64, 2), 1)
	hold.Lists(t, "as many words as may be", got, []int{0}, []int{1})
	got, _ = golay.Blocks(hold.AllWords(2, 12), 11)
	hold.Same(t, "as many words as may be", len(got), 12)
	got, e := golay.Blocks(api.Code{Q: 9, N: 64}, 1)
	hold.Same(t, "one word's error", e, api.OK)
	hold.Lists(t, "one word", got)
	got, _ = golay.Blocks(api.Code{Q: 2, N: 4, Rows: slices.Repeat([][]int{{0, 1, 1, 0}}, 64)}, 2)
	hold.Lists(t, "rows that are alike", got, []int{1, 2})
}

func TestG2BlocksErrors(t *testing.T) {
	for _, c := range wrong {
		_, want := code.Weights(c)
		for _, weight := range []int{-1, 1, math.MaxInt} {
			got, e := golay.Blocks(c, weight)
			hold.Same(t, "what Weights says", e, want)
			hold.Lists(t, "told beside an error", got)
		}
	}
	for _, weight := range []int{0, -1, 8, math.MinInt, math.MaxInt} {
		got, e := golay.Blocks(hamming, weight)
		hold.Same(t, fmt.Sprint("weight ", weight), e, api.ErrPlace)
		hold.Lists(t, "told beside an error", got)
	}
}

// design: what Design should answer, by going through all lists of bits.
func design(n int, blocks [][]int, t int) (many int, ok bool) {
	many = -1
	for bits := range hold.Each(2, n) {
		if code.Weight(bits) != t {
			continue
		}
		now := 0
		for _, block := range blocks {
			left := slices.Clone(bits)
			for _, place := range block {
				left[place] = 0
			}
			if code.Weight(left) == 0 {
				now++
			}
		}
		if many >= 0 && many != now {
			return 0, false
		}
		many = now
	}
	return many, true
}

func asDesign(t *testing.T, n int, blocks [][]int, at int, many int, ok bool) {
	t.Helper()
	what := fmt.Sprint("Design ", n, len(blocks), at)
	got, is, e := golay.Design(n, blocks, at)
	hold.Same(t, what, e, api.OK)
	hold.Same(t, what, is, ok)
	hold.Same(t, what, got, many)
}

func TestG2DesignOfAnyBlocks(t *testing.T) {
	d := hold.Draw(2)
	for range 300 {
		n := 1 + d.Below(7)
		var all [][]int
		for range d.Below(6) {
			all = append(all, d.List(n, d.Below(n+3))) // numbers come twice, and blocks
		}
		for at := range n + 1 {
			many, ok := design(n, all, at)
			asDesign(t, n, all, at, many, ok)
		}
	}
}

func TestG2DesignOfWords(t *testing.T) {
	for _, c := range []struct {
		c      api.Code
		weight int
		want   []int // of 0, 1, 2, .. places
	}{
		{golay.Binary(), 8, []int{759, 253, 77, 21, 5, 1}}, {golay.Binary(), 12, []int{2576, 1288, 616, 280, 120, 48}},
		{golay.Ternary(), 6, []int{132, 66, 30, 12, 4, 1}}, {hamming, 3, []int{7, 3, 1}}, {hamming, 4, []int{7, 4, 2}},
	} {
		all, _ := golay.Blocks(c.c, c.weight)
		for at, many := range c.want {
			asDesign(t, c.c.N, all, at, many, true)
			asDesign(t, c.c.N, all[1:], at, map[bool]int{true: many - 1}[at == 0], at == 0)
		}
	}
	all, _ := golay.Blocks(golay.Ternary(), 6)
	asDesign(t, 12, all, 6, 0, false)
	fano, _ := golay.Blocks(hamming, 3)
	asDesign(t, 7, fano, 3, 0, false)
	asDesign(t, 8, fano, 1, 0, false) // the last place lies in none
}

func TestG2DesignAtTheEnds(t *testing.T) {
	asDesign(t, 1, nil, 0, 0, true)
	asDesign(t, 1, nil, 1, 0, true)
	asDesign(t, 9, nil, 4, 0, true)
	asDesign(t, 9, [][]int{nil, {}}, 0, 2, true)
	asDesign(t, 9, [][]int{nil, {}}, 1, 0, true)
	asDesign(t, 3, [][]int{{2, 0, 1, 1}, {0, 2, 1}}, 3, 2, true) // the same set twice: two blocks
	asDesign(t, 3, [][]int{{1, 1, 1}, {0}, {2}}, 1, 1, true)
	asDesign(t, 64, [][]int{hold.UpTo(64), hold.UpTo(64)}, 3, 2, true)
	asDesign(t, 64, [][]int{hold.UpTo(63)}, 1, 0, false)
	asDesign(t, 64, [][]int{hold.UpTo(64)[1:]}, 1, 0, false)
	asDesign(t, 18, slices.Repeat([][]int{hold.UpTo(18)}, api.MaxWords), 9, api.MaxWords, true)
	asDesign(t, 18, [][]int{hold.UpTo(18)}, 18, 1, true)
}

func TestG2DesignErrors(t *testing.T) {
	many := make([][]int, api.MaxWords+1)
	outside := [][]int{{0}, {1, 7}}
	for _, c := range []struct {
		n      int
		blocks [][]int
		t      int
		want   api.Errno
	}{
		{0, nil, 0, api.ErrLimit}, {-1, nil, 0, api.ErrLimit}, {65, nil, 0, api.ErrLimit}, {math.MinInt, nil, 0, api.ErrLimit}, {math.MaxInt, nil, 0, api.ErrLimit},
		{7, many, 0, api.ErrLimit}, {7, many[1:], 0, api.OK}, {0, outside, -1, api.ErrLimit}, {7, append(many[1:], []int{7}), 8, api.ErrLimit},
		{7, outside, 0, api.ErrPlace}, {8, outside, 0, api.OK}, {7, [][]int{{6, -1}}, 0, api.ErrPlace}, {7, [][]int{{math.MinInt}}, 0, api.ErrPlace}, {7, [][]int{{math.MaxInt}}, 0, api.ErrPlace},
		{7, outside, 8, api.ErrPlace}, {64, [][]int{{64}}, 64, api.ErrPlace},
		{7, nil, -1, api.ErrCount}, {7, nil, 8, api.ErrCount}, {64, nil, 65, api.ErrCount}, {7, nil, math.MinInt, api.ErrCount}, {7, nil, math.MaxInt, api.ErrCount},
		{64, nil, 3, api.OK}, {64, nil, 4, api.ErrLimit}, {64, nil, 32, api.ErrLimit}, {64, nil, 63, api.ErrLimit}, {64, nil, 64, api.ErrLimit},
		{24, nil, 5, api.OK}, {24, nil, 6, api.ErrLimit}, {24, nil, 24, api.ErrLimit}, {18, nil, 9, api.OK}, {18, nil, 18, api.OK},
		{19, nil, 6, api.OK}, {19, nil, 7, api.ErrLimit}, {19, nil, 13, api.ErrLimit}, {19, nil, 19, api.ErrLimit}, {61, nil, 3, api.OK},
	} {
		got, ok, e := golay.Design(c.n, c.blocks, c.t)
		hold.Same(t, fmt.Sprint("Design ", c.n, len(c.blocks), c.t), e, c.want)
		if e != api.OK {
			hold.Same(t, "told beside an error", got, 0)
			hold.Same(t, "told beside an error", ok, false)
		}
	}
}

// perfect: has each word of that length just one of these words at r places at most?
func perfect(q, n, r int, words [][]int) bool {
	for x := range hold.Each(q, n) {
		near := 0
		for _, word := range words {
			if code.Apart(word, x) <= r {
				near++
			}
		}
		if near != 1 {
			return false
		}
	}
	return true
}

func asPerfect(t *testing.T, c api.Code, r int, want bool) {
	t.Helper()
	got, e := golay.Perfect(c, r)
	hold.Same(t, "Perfect's error", e, api.OK)
	hold.Same(t, fmt.Sprint("Perfect ", c, r), got, want)
}

func TestG3PerfectOfAnyCode(t *testing.T) {
	d := hold.Draw(3)
	yes := 0
	for range 300 {
		c := anyCode(&d)
		words := wordsOf(t, c)
		for r := range c.N + 1 {
			want := perfect(c.Q, c.N, r, words)
			asPerfect(t, c, r, want)
			if want {
				yes++
			}
		}
	}
	hold.Same(t, "some are", yes > 50, true)
}

func TestG3PerfectCodes(t *testing.T) {
	for _, c := range []struct {
		c  api.Code
		at int // the one radius at which it is; -1: at none
	}{
		{golay.Binary(), -1}, {golay.Ternary(), -1}, {hamming, 1}, {hold.AllWords(2, 12), 0}, {hold.AllWords(64, 2), 0}, {api.Code{Q: 2, N: 30}, 30}, {api.Code{Q: 64, N: 5}, 5},
		{alike(2, 7), 3}, {alike(2, 29), 14}, {alike(2, 8), -1}, {alike(3, 3), -1}, // of three words with 7 around each there are 6 without one
		{api.Code{Q: 2, N: 3, Rows: [][]int{{0, 0, 1}}}, -1}, // as many as all words, but some twice
		{api.Code{Q: 3, N: 4, Rows: [][]int{{1, 0, 1, 1}, {0, 1, 1, 2}}}, 1}, {alike(3, 18), -1},
	} {
		for r := range c.c.N + 1 {
			asPerfect(t, c.c, r, r == c.at)
		}
	}
	for place := range 24 {
		c, _ := code.Puncture(golay.Binary(), place)
		for r := range 24 {
			asPerfect(t, c, r, r == 3)
		}
	}
	for place := range 12 {
		c, _ := code.Puncture(golay.Ternary(), place)
		for r := range 12 {
			asPerfect(t, c, r, r == 2)
		}
	}
}

func TestG3Errors(t *testing.T) {
	keep := func(c api.Code, r int, want api.Errno) {
		t.Helper()
		got, e := golay.Perfect(c, r)
		hold.Same(t, "Perfect's error", e, want)
		hold.Same(t, "told beside an error", got, false)
	}
	for _, c := range wrong {
		_, want := code.Weights(c)
		keep(c, 0, want)
		keep(c, -1, want)
	}
	for _, c := range []api.Code{{Q: 2, N: 31}, {Q: 3, N: 19}, {Q: 64, N: 6}, {Q: 2, N: 64}, alike(7, 11)} {
		keep(c, 0, api.ErrLimit)
		keep(c, -1, api.ErrLimit)
		keep(c, c.N, api.ErrLimit)
	}
	for _, r := range []int{-1, 8, math.MinInt, math.MaxInt} {
		keep(hamming, r, api.ErrPlace)
	}
}

// TestListsAreTheCallers: who writes into a code that was told, or into blocks, changes no other answer.
func TestListsAreTheCallers(t *testing.T) {
	var handed hold.Handed
	c := api.Code{Q: 3, N: 4, Rows: [][]int{handed.List(1, 0, 1, 1), handed.List(0, 1, 1, 2)}}
	block := handed.List(3, 0, 0)
	var out [][]int
	for range 2 {
		all, _ := golay.Blocks(c, 3)
		hold.Same(t, "how many blocks", len(all), 4)
		golay.Design(4, [][]int{block, block}, 1)
		golay.Perfect(c, 1)
		out = slices.Concat(out, golay.Binary().Rows, golay.Ternary().Rows, all)
	}
	handed.Apart(t, out...)
	two, three := golay.Binary(), golay.Ternary()
	one, _ := code.Make(two)
	hold.Code(t, "Binary, as it was", two, one)
	one, _ = code.Make(three)
	hold.Code(t, "Ternary, as it was", three, one)
	hold.Same(t, "their rows", len(two.Rows)+len(three.Rows), 18)
	two.Rows[0], three.Rows = nil, nil
	hold.Same(t, "their rows still", len(golay.Binary().Rows[0])+len(golay.Ternary().Rows), 30)
}
