package polar_test

import (
	"fmt"
	"math"
	"slices"
	"testing"

	"syndrome/api"
	"syndrome/hold"
	"syndrome/polar"
)

// noLevels: m that may not be.
var noLevels = []int{-1, 6, 7, 64, -64, math.MinInt, math.MaxInt, 1 << 32}

// sent: a word's transform: each bit is the sum of those whose places have all its place's bits.
func sent(word []int) []int {
	out := make([]int, len(word))
	for x := range out {
		for y, v := range word {
			if x&y == x {
				out[x] = (out[x] + v) % 2
			}
		}
	}
	return out
}

func transformed(t *testing.T, m int, w []int, want ...int) {
	t.Helper()
	got, e := polar.Transform(m, w)
	hold.Same(t, "Transform's error", e, api.OK)
	hold.List(t, fmt.Sprint("Transform ", m, w), got, want...)
}

func TestK1Transform(t *testing.T) {
	transformed(t, 0, []int{0}, 0)
	transformed(t, 0, []int{1}, 1)
	transformed(t, 1, []int{1, 0}, 1, 0)
	transformed(t, 1, []int{0, 1}, 1, 1)
	transformed(t, 2, []int{0, 1, 0, 0}, 1, 1, 0, 0)
	transformed(t, 2, []int{0, 0, 1, 0}, 1, 0, 1, 0)
	transformed(t, 2, []int{1, 0, 1, 1}, 1, 1, 0, 1)
	for m := range 5 {
		for word := range hold.Each(2, 1<<m) {
			transformed(t, m, word, sent(word)...)
			if m == 4 && word[4] == 1 {
				break // the further ones are drawn
			}
		}
	}
	d := hold.Draw(1)
	for range 500 {
		m := 3 + d.Below(3)
		word := d.List(2, 1<<m)
		transformed(t, m, word, sent(word)...)
		transformed(t, m, sent(word), word...)
	}
}

func TestK1TransformErrors(t *testing.T) {
	keep := func(m int, w []int, want api.Errno) {
		t.Helper()
		got, e := polar.Transform(m, w)
		hold.Same(t, fmt.Sprint("Transform ", m, w), e, want)
		hold.List(t, "told beside an error", got)
	}
	for _, m := range noLevels {
		for _, w := range [][]int{nil, {1}, {2}, make([]int, 64)} {
			keep(m, w, api.ErrLimit)
		}
	}
	for m := range 6 {
		keep(m, nil, api.ErrCount)
		keep(m, make([]int, 1<<m-1), api.ErrCount)
		keep(m, make([]int, 1<<m+1), api.ErrCount)
		keep(m, slices.Repeat([]int{2}, 1<<m+1), api.ErrCount)
		for _, v := range []int{2, -1, math.MinInt, math.MaxInt, 1 << 32} {
			keep(m, append(make([]int, 1<<m-1), v), api.ErrValue)
			keep(m, append([]int{v}, make([]int, 1<<m-1)...), api.ErrValue)
		}
	}
}

// chances that are told.
func chances(t *testing.T, m int) []int {
	t.Helper()
	got, e := polar.Chances(m)
	hold.Same(t, fmt.Sprint("Chances ", m), e, api.OK)
	return got
}

func TestK2Chances(t *testing.T) {
	hold.List(t, "Chances 0", chances(t, 0), 1)
	hold.List(t, "Chances 1", chances(t, 1), 3, 1)
	hold.List(t, "Chances 2", chances(t, 2), 15, 9, 7, 1)
	hold.List(t, "Chances 3", chances(t, 3), 255, 225, 207, 81, 175, 49, 31, 1)
	for m := range 6 {
		got := chances(t, m)
		hold.Same(t, "how many Chances", len(got), 1<<m)
		for place, v := range got {
			odds := 0.5 // exact, as it is a whole number of 2^32nd parts
			for level := m - 1; level >= 0; level-- {
				if place>>level&1 == 0 {
					odds = 2*odds - odds*odds
				} else {
					odds *= odds
				}
			}
			hold.Same(t, fmt.Sprint("Chances ", m, " at ", place), float64(v), odds*math.Pow(2, float64(int(1)<<m)))
		}
	}
}

// TestK2Cases counts: a bit can't be told where words that differ in it, but in none ahead of it, are alike in all that isn't lost.
func TestK2Cases(t *testing.T) {
	for m := range 4 {
		many := 1 << m
		hidden := make([][]bool, many) // of each bit: in which cases it can't be told
		for i := range hidden {
			hidden[i] = make([]bool, 1<<many)
		}
		for word := range hold.Each(2, many) {
			first := slices.Index(word, 1)
			if first < 0 {
				continue
			}
			apart := 0
			for place, v := range sent(word) {
				apart |= v << place
			}
			for lost := range 1 << many {
				if lost&apart == apart {
					hidden[first][lost] = true
				}
			}
		}
		for i, v := range chances(t, m) {
			cases := 0
			for _, is := range hidden[i] {
				if is {
					cases++
				}
			}
			hold.Same(t, fmt.Sprint("Chances ", m, " at ", i), v, cases)
		}
	}
}

func TestK2Best(t *testing.T) {
	best := func(m, k int) []int {
		t.Helper()
		got, e := polar.Best(m, k)
		hold.Same(t, fmt.Sprint("Best ", m, k), e, api.OK)
		return got
	}
	hold.List(t, "Best 3 4", best(3, 4), 3, 5, 6, 7)
	hold.List(t, "Best 3 5", best(3, 5), 3, 4, 5, 6, 7)
	hold.List(t, "Best 4 8", best(4, 8), 7, 9, 10, 11, 12, 13, 14, 15)
	hold.List(t, "Best 0 0", best(0, 0))
	hold.List(t, "Best 0 1", best(0, 1), 0)
	for m := range 6 {
		left, places := chances(t, m), []int{}
		for k := range 1<<m + 1 {
			slices.Sort(places)
			hold.List(t, fmt.Sprint("Best ", m, k), best(m, k), places...)
			least := 0
			for place, v := range left {
				if v <= left[least] { // of alike ones the last
					least = place
				}
			}
			places, left[least] = append(places, least), math.MaxInt
		}
	}
}

func TestK2Errors(t *testing.T) {
	keep := func(m, k int, want api.Errno) {
		t.Helper()
		got, e := polar.Best(m, k)
		hold.Same(t, fmt.Sprint("Best ", m, k), e, want)
		hold.List(t, "told beside an error", got)
	}
	for _, m := range noLevels {
		got, e := polar.Chances(m)
		hold.Same(t, fmt.Sprint("Chances ", m), e, api.ErrLimit)
		hold.List(t, "told beside an error", got)
		for _, k := range []int{0, 1, -1, 99, math.MinInt, math.MaxInt} {
			keep(m, k, api.ErrLimit)
		}
	}
	for m := range 6 {
		for _, k := range []int{-1, 1<<m + 1, math.MinInt, math.MaxInt, 1 << 32} {
			keep(m, k, api.ErrCount)
		}
	}
}

// laid: a message at the best places, 0 at all others.
func laid(m int, message []int) []int {
	best, _ := polar.Best(m, len(message))
	word := make([]int, 1<<m)
	for i, place := range best {
		word[place] = message[i]
	}
	return word
}

func TestK3Encode(t *testing.T) {
	encoded := func(m int, message []int, want ...int) {
		t.Helper()
		got, e := polar.Encode(m, message)
		hold.Same(t, "Encode's error", e, api.OK)
		hold.List(t, fmt.Sprint("Encode ", m, message), got, want...)
	}
	encoded(3, []int{1, 0, 1, 1}, 1, 0, 1, 0, 0, 1, 0, 1)
	encoded(0, nil, 0)
	encoded(0, []int{1}, 1)
	encoded(2, []int{}, 0, 0, 0, 0)
	encoded(2, []int{1}, 1, 1, 1, 1)
	encoded(2, []int{1, 0}, 1, 0, 1, 0) // the better one of the middle two is the later one
	d := hold.Draw(2)
	for m := range 6 {
		encoded(m, nil, make([]int, 1<<m)...)
		for k := range 1<<m + 1 {
			for range 20 {
				message := d.List(2, k)
				encoded(m, message, sent(laid(m, message))...)
			}
		}
	}
}

func TestK3Errors(t *testing.T) {
	keep := func(m int, message []int, want api.Errno) {
		t.Helper()
		got, e := polar.Encode(m, message)
		hold.Same(t, fmt.Sprint("Encode ", m, message), e, want)
		hold.List(t, "told beside an error", got)
	}
	for _, m := range noLevels {
		for _, message := range [][]int{nil, {1}, {2}, make([]int, 99)} {
			keep(m, message, api.ErrLimit)
		}
	}
	for m := range 6 {
		keep(m, make([]int, 1<<m+1), api.ErrCount)
		keep(m, slices.Repeat([]int{2}, 1<<m+1), api.ErrCount)
		for _, v := range []int{2, -1, math.MinInt, math.MaxInt, 1 << 32} {
			keep(m, []int{v}, api.ErrValue)
			keep(m, append(make([]int, 1<<m-1), v), api.ErrValue)
		}
	}
}

func told(t *testing.T, m, k int, w, message []int) {
	t.Helper()
	what := fmt.Sprint("Decode ", m, k, w)
	got, ok, e := polar.Decode(m, k, w)
	hold.Same(t, what, e, api.OK)
	hold.Same(t, what, ok, true)
	hold.List(t, what, got, message...)
}

func notTold(t *testing.T, m, k int, w []int, want api.Errno) {
	t.Helper()
	what := fmt.Sprint("Decode ", m, k, w)
	got, ok, e := polar.Decode(m, k, w)
	hold.Same(t, what, e, want)
	hold.Same(t, what, ok, false)
	hold.List(t, what, got)
}

// pair: a word, and its transform.
type pair struct{ word, sent []int }

func pairs(m int) (out []pair) {
	for word := range hold.Each(2, 1<<m) {
		out = append(out, pair{word, sent(word)})
	}
	return out
}

// those of pairs for which something holds.
func those(all []pair, holds func(p pair) bool) (out []pair) {
	for _, p := range all {
		if holds(p) {
			out = append(out, p)
		}
	}
	return out
}

// decoded: what Decode should answer: of all words that can have come so, bit by bit, which bit those have that have the bits told so far; where both, a fixed one is 0, and any other can't be told.
func decoded(w, best []int, all []pair) (message []int, ok bool) {
	rest := those(all, func(p pair) bool {
		for place, v := range w {
			if v != -1 && v != p.sent[place] {
				return false
			}
		}
		return true
	})
	for i := range w {
		noughts := those(rest, func(p pair) bool { return p.word[i] == 0 })
		ones := those(rest, func(p pair) bool { return p.word[i] == 1 })
		isBest := slices.Contains(best, i)
		switch {
		case isBest && len(noughts) > 0 && len(ones) > 0, !isBest && len(noughts) == 0:
			return nil, false
		case isBest && len(ones) > 0:
			message, rest = append(message, 1), ones
		case isBest:
			message, rest = append(message, 0), noughts
		default:
			rest = noughts
		}
	}
	return message, true
}

func asDecoded(t *testing.T, m, k int, w []int, all []pair) bool {
	t.Helper()
	best, _ := polar.Best(m, k)
	message, ok := decoded(w, best, all)
	if ok {
		told(t, m, k, w, message)
	} else {
		notTold(t, m, k, w, api.OK)
	}
	return ok
}

func TestK4AllWords(t *testing.T) {
	told(t, 2, 2, []int{1, -1, -1, 0}, []int{1, 0})
	for m := range 3 {
		all := pairs(m)
		for w := range hold.Each(3, 1<<m) {
			for i := range w {
				w[i]--
			}
			for k := range 1<<m + 1 {
				asDecoded(t, m, k, w, all)
			}
		}
	}
}

func TestK4DrawnWords(t *testing.T) {
	d := hold.Draw(3)
	all := pairs(3)
	yes, no := 0, 0
	for range 3000 {
		k := d.Below(9)
		w := sent(laid(3, d.List(2, k)))
		for _, place := range d.Different(8, d.Below(9)) {
			w[place] = d.Below(6)%3 - 1
		}
		if asDecoded(t, 3, k, w, all) {
			yes++
		} else {
			no++
		}
	}
	hold.Same(t, "some are told, some aren't", yes > 500 && no > 500, true)
}

// TestK4Fails: of one fixed bit that isn't 0, of one other bit that is lost.
func TestK4Fails(t *testing.T) {
	told(t, 0, 1, []int{1}, []int{1})
	notTold(t, 0, 1, []int{-1}, api.OK)
	told(t, 0, 0, []int{-1}, nil)
	told(t, 0, 0, []int{0}, nil)
	notTold(t, 0, 0, []int{1}, api.OK)
	told(t, 1, 1, []int{1, 1}, []int{1})
	told(t, 1, 1, []int{-1, 1}, []int{1})
	told(t, 1, 1, []int{1, -1}, []int{1})
	notTold(t, 1, 1, []int{-1, -1}, api.OK)
	notTold(t, 1, 1, []int{1, 0}, api.OK)
	notTold(t, 1, 1, []int{0, 1}, api.OK)
	told(t, 1, 2, []int{0, 1}, []int{1, 1})
	notTold(t, 1, 2, []int{0, -1}, api.OK)
}

// TestK4NotByWhatIsBehind: one message alone has such a word, but bit 3 could be told only by bit 4, a fixed one that is read later.
func TestK4NotByWhatIsBehind(t *testing.T) {
	w := []int{0, 0, 0, -1, -1, -1, -1, 0}
	fits := 0
	for message := range hold.Each(2, 4) {
		word := sent(laid(3, message))
		if slices.Equal(word[:3], w[:3]) && word[7] == w[7] {
			fits++
		}
	}
	hold.Same(t, "messages that fit", fits, 1)
	notTold(t, 3, 4, w, api.OK)
}

// TestK4LongWords: what is told is right, of words that lose some; all is told, if none is lost.
func TestK4LongWords(t *testing.T) {
	d := hold.Draw(4)
	for m := 3; m < 6; m++ {
		yes, no := 0, 0
		for k := range 1<<m + 1 {
			message := d.List(2, k)
			w := sent(laid(m, message))
			told(t, m, k, w, message)
			if k < 1<<m {
				w[d.Below(len(w))] ^= 1
				notTold(t, m, k, w, api.OK) // bit 0 is fixed, and the sum of all that came
			}
			for range 30 {
				w := sent(laid(m, message))
				for _, place := range d.Different(len(w), d.Below(len(w))) {
					w[place] = -1
				}
				got, ok, e := polar.Decode(m, k, w)
				hold.Same(t, "Decode's error", e, api.OK)
				if ok {
					hold.List(t, fmt.Sprint("Decode ", m, k, w), got, message...)
					yes++
				} else {
					hold.List(t, "told beside false", got)
					no++
				}
			}
		}
		hold.Same(t, "some are told, some aren't", yes > 50 && no > 50, true)
		told(t, m, 0, slices.Repeat([]int{-1}, 1<<m), nil)
		notTold(t, m, 1, slices.Repeat([]int{-1}, 1<<m), api.OK)
		for place := range 1 << m {
			w := slices.Repeat([]int{-1}, 1<<m)
			w[place] = 1
			told(t, m, 1, w, []int{1}) // one message bit stands everywhere
			notTold(t, m, 0, w, api.OK)
		}
	}
}

// TestK4AsOftenAsChances: a lone bit that isn't fixed is hidden, when half is lost, just as often as Chances tells of the best place.
func TestK4AsOftenAsChances(t *testing.T) {
	for m := range 4 {
		hidden := 0
		for lost := range hold.Each(2, 1<<m) {
			for i := range lost {
				lost[i] = -lost[i]
			}
			if _, ok, _ := polar.Decode(m, 1, lost); !ok {
				hidden++
			}
		}
		hold.Same(t, fmt.Sprint("hidden of ", m), hidden, slices.Min(chances(t, m)))
	}
}

func TestK4Errors(t *testing.T) {
	for _, m := range noLevels {
		for _, k := range []int{0, 1, -1, 99} {
			notTold(t, m, k, nil, api.ErrLimit)
			notTold(t, m, k, []int{2}, api.ErrLimit)
		}
	}
	for m := range 6 {
		for _, k := range []int{-1, 1<<m + 1, math.MinInt, math.MaxInt} {
			notTold(t, m, k, nil, api.ErrCount)
			notTold(t, m, k, slices.Repeat([]int{2}, 1<<m), api.ErrCount)
		}
		for k := range 1<<m + 1 {
			notTold(t, m, k, nil, api.ErrCount)
			notTold(t, m, k, make([]int, 1<<m-1), api.ErrCount)
			notTold(t, m, k, make([]int, 1<<m+1), api.ErrCount)
			notTold(t, m, k, slices.Repeat([]int{2}, 1<<m+1), api.ErrCount)
			for _, v := range []int{2, -2, math.MinInt, math.MaxInt, 1 << 32} {
				notTold(t, m, k, append(make([]int, 1<<m-1), v), api.ErrValue)
				notTold(t, m, k, append([]int{v}, slices.Repeat([]int{-1}, 1<<m-1)...), api.ErrValue)
			}
		}
	}
}

func TestListsAreTheCallers(t *testing.T) {
	var handed hold.Handed
	one, word, message := handed.List(1), handed.List(1, 0, 1, 1), handed.List(1, 0, 1)
	w, all := handed.List(1, -1, -1, 0), handed.List(1, 0, 0, 1)
	var out [][]int
	for range 2 {
		short, _ := polar.Transform(0, one)
		long, _ := polar.Transform(2, word)
		odds, _ := polar.Chances(2)
		best, _ := polar.Best(2, 3)
		none, _ := polar.Best(2, 0)
		coded, _ := polar.Encode(2, message)
		lone, _, _ := polar.Decode(0, 1, one)
		read, _, _ := polar.Decode(2, 2, w)
		whole, _, _ := polar.Decode(2, 4, all)
		hold.Same(t, "lists of their length", len(short)+len(long)+len(odds)+len(best)+len(none)+len(coded)+len(lone)+len(read)+len(whole), 1+4+4+3+0+4+1+2+4)
		out = append(out, short, long, odds, best, none, coded, lone, read, whole)
	}
	handed.Apart(t, out...)
}
