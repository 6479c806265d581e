package trellis_test

import (
	"fmt"
	"math"
	"slices"
	"testing"

	"syndrome/api"
	"syndrome/hold"
	"syndrome/trellis"
)

// wrong: rules that Check refuses, and by what.
var wrong = []struct {
	rules []int
	want  api.Errno
}{
	{nil, api.ErrCount}, {[]int{}, api.ErrCount}, {[]int{1, 1, 1, 1}, api.ErrCount}, {[]int{0, 0, 0, 0}, api.ErrCount}, {make([]int, 99), api.ErrCount},
	{[]int{0}, api.ErrValue}, {[]int{32}, api.ErrValue}, {[]int{-1}, api.ErrValue}, {[]int{7, 5, 0}, api.ErrValue}, {[]int{7, 32, 5}, api.ErrValue},
	{[]int{math.MinInt}, api.ErrValue}, {[]int{1, math.MaxInt}, api.ErrValue}, {[]int{1, -31}, api.ErrValue}, {[]int{1 << 32}, api.ErrValue},
}

// memory of rules, by their bits one after the other.
func memory(rules []int) (most int) {
	for _, rule := range rules {
		for j := range 5 {
			if rule/[]int{1, 2, 4, 8, 16}[j]%2 == 1 {
				most = max(most, j)
			}
		}
	}
	return most
}

// encoded: a message's signs, each as the sum of products of its bits and its rule's.
func encoded(rules, message []int) (out []int) {
	for at := range len(message) + memory(rules) {
		for _, rule := range rules {
			sum := 0
			for j := range 5 {
				if at-j >= 0 && at-j < len(message) {
					sum += message[at-j] * (rule / []int{1, 2, 4, 8, 16}[j] % 2)
				}
			}
			out = append(out, sum%2)
		}
	}
	return out
}

// anyRules draws one to three.
func anyRules(d *hold.Draw) []int {
	out := d.List(31, 1+d.Below(3))
	for i := range out {
		out[i]++
	}
	return out
}

// apart is at how many places two lists of as many numbers differ.
func apart(one, other []int) (many int) {
	for i := range one {
		if one[i] != other[i] {
			many++
		}
	}
	return many
}

func TestT1Check(t *testing.T) {
	for one := 1; one < 32; one++ {
		hold.Same(t, "Check of a rule", trellis.Check([]int{one}), api.OK)
		hold.Same(t, "Check of two", trellis.Check([]int{one, 32 - one}), api.OK)
		hold.Same(t, "Check of three", trellis.Check([]int{one, one, 31}), api.OK)
	}
	for _, c := range wrong {
		hold.Same(t, fmt.Sprint("Check ", c.rules), trellis.Check(c.rules), c.want)
	}
}

func TestT1Encode(t *testing.T) {
	encode := func(rules, message []int, want ...int) {
		t.Helper()
		got, e := trellis.Encode(rules, message)
		hold.Same(t, "Encode's error", e, api.OK)
		hold.List(t, fmt.Sprint("Encode ", rules, message), got, want...)
	}
	encode([]int{7, 5}, []int{1, 0, 1, 1}, 1, 1, 1, 0, 0, 0, 0, 1, 0, 1, 1, 1)
	encode([]int{1}, []int{1, 0, 1}, 1, 0, 1)
	encode([]int{2}, []int{1, 0, 1}, 0, 1, 0, 1)
	encode([]int{16}, []int{1}, 0, 0, 0, 0, 1)
	encode([]int{1, 3}, []int{1, 1}, 1, 1, 1, 0, 0, 1)
	encode([]int{3, 1}, []int{1, 1}, 1, 1, 0, 1, 1, 0)
	encode([]int{1, 1, 1}, nil)
	encode([]int{4}, nil, 0, 0)
	encode([]int{1, 31}, []int{}, 0, 0, 0, 0, 0, 0, 0, 0)
	d := hold.Draw(1)
	for range 500 {
		rules, message := anyRules(&d), d.List(2, d.Below(api.MaxBits+1))
		encode(rules, message, encoded(rules, message)...)
	}
	for rule := 1; rule < 32; rule++ {
		encode([]int{rule}, slices.Repeat([]int{1}, api.MaxBits), encoded([]int{rule}, slices.Repeat([]int{1}, api.MaxBits))...)
	}
}

func TestT1EncodeErrors(t *testing.T) {
	keep := func(rules, message []int, want api.Errno) {
		t.Helper()
		got, e := trellis.Encode(rules, message)
		hold.Same(t, fmt.Sprint("Encode ", rules, message), e, want)
		hold.List(t, "told beside an error", got)
	}
	for _, c := range wrong {
		keep(c.rules, []int{1, 0}, c.want)
		keep(c.rules, slices.Repeat([]int{2}, api.MaxBits+1), c.want)
	}
	keep([]int{1}, make([]int, api.MaxBits+1), api.ErrLimit)
	keep([]int{7, 5}, slices.Repeat([]int{2}, api.MaxBits+1), api.ErrLimit)
	for _, v := range []int{2, -1, 3, math.MinInt, math.MaxInt, 1 << 32} {
		keep([]int{7, 5}, []int{v}, api.ErrValue)
		keep([]int{7, 5}, append(make([]int, api.MaxBits-1), v), api.ErrValue)
	}
}

func TestT2Length(t *testing.T) {
	d := hold.Draw(2)
	for range 300 {
		rules := anyRules(&d)
		many := d.Below(api.MaxBits + 4)
		for off := -2; off <= 2; off++ {
			signs := make([]int, max(0, (many+memory(rules))*len(rules)+off))
			want, e := 0, api.ErrCount
			for bits := range 30 { // the message that has so many signs
				if (bits+memory(rules))*len(rules) == len(signs) {
					want, e = bits, api.OK
				}
			}
			if want > api.MaxBits {
				want, e = 0, api.ErrLimit
			}
			got, is := trellis.Length(rules, signs)
			hold.Same(t, fmt.Sprint("Length ", rules, len(signs)), is, e)
			hold.Same(t, fmt.Sprint("Length ", rules, len(signs)), got, want)
		}
	}
}

// wrongSigns: what Length refuses, and by what.
func wrongSigns() (rules, signs [][]int, want []api.Errno) {
	keep := func(rule, sign []int, e api.Errno) {
		rules, signs, want = append(rules, rule), append(signs, sign), append(want, e)
	}
	for _, c := range wrong {
		keep(c.rules, nil, c.want)
		keep(c.rules, []int{2}, c.want)
	}
	keep([]int{2}, nil, api.ErrCount)
	keep([]int{1, 1}, []int{1}, api.ErrCount)
	keep([]int{1, 1}, []int{2}, api.ErrCount)
	keep([]int{7, 5}, []int{0, 0}, api.ErrCount)
	keep([]int{7, 5}, []int{0, 0, 0}, api.ErrCount)
	keep([]int{7, 5}, []int{0, 2, 0, 0, 0}, api.ErrCount)
	keep([]int{31}, make([]int, 3), api.ErrCount)
	keep([]int{1, 1, 1}, make([]int, 1000), api.ErrCount)
	keep([]int{1}, make([]int, 21), api.ErrLimit)
	keep([]int{31}, make([]int, 25), api.ErrLimit)
	keep([]int{1, 2}, append(make([]int, 43), -1), api.ErrLimit)
	keep([]int{16, 1, 1}, slices.Repeat([]int{3}, 75), api.ErrLimit)
	for _, v := range []int{2, -1, math.MinInt, math.MaxInt, 1 << 32} {
		keep([]int{1}, append(make([]int, 19), v), api.ErrValue)
		keep([]int{7, 5}, []int{v, 0, 1, 1}, api.ErrValue)
		keep([]int{16, 1, 1}, append(make([]int, 71), v), api.ErrValue)
	}
	return rules, signs, want
}

func TestT2Errors(t *testing.T) {
	rules, signs, want := wrongSigns()
	for i, e := range want {
		what := fmt.Sprint(rules[i], signs[i])
		many, is := trellis.Length(rules[i], signs[i])
		hold.Same(t, "Length "+what, is, e)
		hold.Same(t, "told beside an error", many, 0)
		message, off, is := trellis.Viterbi(rules[i], signs[i])
		hold.Same(t, "Viterbi "+what, is, e)
		hold.List(t, "told beside an error", message)
		hold.Same(t, "told beside an error", off, 0)
	}
}

// nearest: what Viterbi should answer, by going through all messages.
func nearest(rules, signs []int, many int) (best []int, off int) {
	off = math.MaxInt
	for message := range hold.Each(2, many) {
		if now := apart(encoded(rules, message), signs); now < off {
			best, off = message, now
		}
	}
	return best, off
}

func viterbi(t *testing.T, rules, signs, want []int, off int) {
	t.Helper()
	got, is, e := trellis.Viterbi(rules, signs)
	hold.Same(t, "Viterbi's error", e, api.OK)
	hold.List(t, fmt.Sprint("Viterbi ", rules, signs), got, want...)
	hold.Same(t, fmt.Sprint("Viterbi ", rules, signs), is, off)
}

func TestT2Viterbi(t *testing.T) {
	viterbi(t, []int{7, 5}, []int{1, 1, 1, 0, 0, 1, 0, 1, 0, 1, 1, 1}, []int{1, 0, 1, 1}, 1)
	viterbi(t, []int{1}, nil, nil, 0)
	viterbi(t, []int{3, 2}, []int{1, 1}, nil, 2)
	d := hold.Draw(3)
	for range 400 {
		rules, many := anyRules(&d), d.Below(8)
		signs := d.List(2, (many+memory(rules))*len(rules)) // mostly far from all, so that several are as near
		want, off := nearest(rules, signs, many)
		viterbi(t, rules, signs, want, off)
	}
}

// TestT2ViterbiFirstOfSeveral: of all lists of signs, by rules whose messages are told apart by few of them.
func TestT2ViterbiFirstOfSeveral(t *testing.T) {
	for _, rules := range [][]int{{1, 1}, {2, 1}, {3}, {7}, {6, 6}, {5, 2}, {16, 8}} {
		for signs := range hold.Each(2, (3+memory(rules))*len(rules)) {
			if want, off := nearest(rules, signs, 3); off > 0 {
				viterbi(t, rules, signs, want, off)
			}
		}
	}
}

func TestT2ViterbiOfTheLongest(t *testing.T) {
	d := hold.Draw(4)
	for range 100 {
		rules, message := anyRules(&d), d.List(2, api.MaxBits)
		signs := encoded(rules, message)
		viterbi(t, rules, signs, message, 0)
	}
	for range 100 { // words of this code differ at five places, at least
		message := d.List(2, api.MaxBits)
		signs := encoded([]int{7, 5}, message)
		for _, place := range d.Different(len(signs), 2) {
			signs[place] ^= 1
		}
		viterbi(t, []int{7, 5}, signs, message, 2)
	}
}

// counted: what Chances should answer, by going through all messages.
func counted(rules, signs []int, many, a, b int) (ones []int, all int) {
	ones = make([]int, many)
	for message := range hold.Each(2, many) {
		own, product := encoded(rules, message), 1
		for i, sign := range signs {
			if own[i] != sign {
				product *= a
			} else {
				product *= b - a
			}
		}
		all += product
		for i, bit := range message {
			ones[i] += bit * product
		}
	}
	return ones, all
}

func chances(t *testing.T, rules, signs []int, a, b int, want []int, all int) {
	t.Helper()
	what := fmt.Sprint(rules, signs, a, b)
	ones, sum, e := trellis.Chances(rules, signs, a, b)
	hold.Same(t, "Chances's error", e, api.OK)
	hold.List(t, "Chances "+what, ones, want...)
	hold.Same(t, "Chances "+what, sum, all)
	odds, e := trellis.Odds(rules, signs, a, b)
	if all == 0 {
		hold.Same(t, "Odds "+what, e, api.ErrZero)
		hold.Same(t, "told beside an error", len(odds), 0)
		return
	}
	hold.Same(t, "Odds "+what, e, api.OK)
	hold.Same(t, "how many Odds", len(odds), len(want))
	for i, one := range want {
		hold.Same(t, "Odds "+what, odds[i], float64(one)/float64(all))
		hold.Same(t, "a 0 that is less than none", math.Signbit(odds[i]), false)
	}
}

func TestT3Chances(t *testing.T) {
	chances(t, []int{3}, []int{1, 1, 0}, 1, 4, []int{30, 6}, 36)
	odds, _ := trellis.Odds([]int{3}, []int{1, 1, 0}, 1, 4)
	hold.Same(t, "Odds", fmt.Sprint(odds), "[0.8333333333333334 0.16666666666666666]")
	d := hold.Draw(5)
	noughts := 0
	for range 600 {
		rules, many, b := anyRules(&d), d.Below(7), 1+d.Below(4)
		a := d.Below(b + 1)
		signs := d.List(2, (many+memory(rules))*len(rules))
		if len(signs) > 24 {
			continue
		}
		ones, all := counted(rules, signs, many, a, b)
		chances(t, rules, signs, a, b, ones, all)
		if all == 0 {
			noughts++
		}
	}
	hold.Same(t, "some are 0", noughts > 20, true)
}

// TestT3OfWords: where nothing is turned, or all is, one message counts at most.
func TestT3OfWords(t *testing.T) {
	for message := range hold.Each(2, 4) {
		signs := encoded([]int{7, 5}, message)
		const most = 1 << 24 // 4 for each of 12 signs
		want := make([]int, 4)
		for i, bit := range message {
			want[i] = bit * most
		}
		chances(t, []int{7, 5}, signs, 0, 4, want, most)
		for i := range signs {
			signs[i] ^= 1
		}
		chances(t, []int{7, 5}, signs, 4, 4, want, most)
		chances(t, []int{7, 5}, signs, 0, 4, make([]int, 4), 0)
	}
}

func TestT3AtTheEnds(t *testing.T) {
	chances(t, []int{1}, nil, 0, 4, nil, 1)
	chances(t, []int{1, 1, 1}, nil, 1, 1, nil, 1)
	chances(t, []int{1}, []int{1}, 0, 1, []int{1}, 1)
	chances(t, []int{1}, []int{1}, 1, 1, []int{0}, 1)
	chances(t, []int{4}, []int{1, 0}, 1, 3, nil, 2)
	chances(t, []int{1}, make([]int, 20), 1, 4, slices.Repeat([]int{1 << 38}, 20), 1<<40)
	chances(t, []int{1}, slices.Repeat([]int{1}, 20), 1, 4, slices.Repeat([]int{3 << 38}, 20), 1<<40)
	chances(t, []int{1, 1, 1}, make([]int, 24), 0, 4, make([]int, 8), 1<<48)
	long := slices.Repeat([]int{1, 0}, 10)
	signs := encoded([]int{31}, long)
	hold.Same(t, "how many signs", len(signs), 24)
	want := make([]int, 20)
	for i, bit := range long {
		want[i] = bit << 48
	}
	chances(t, []int{31}, signs, 0, 4, want, 1<<48)
}

// TestT3OfTheLongest: many messages, gone through.
func TestT3OfTheLongest(t *testing.T) {
	d := hold.Draw(6)
	for _, c := range []struct{ rules, signs []int }{{[]int{19}, d.List(2, 20)}, {[]int{1}, d.List(2, 16)}, {[]int{13, 7}, d.List(2, 24)}, {[]int{6, 5, 3}, d.List(2, 24)}} {
		many, e := trellis.Length(c.rules, c.signs)
		hold.Same(t, "Length's error", e, api.OK)
		ones, all := counted(c.rules, c.signs, many, 1, 4)
		chances(t, c.rules, c.signs, 1, 4, ones, all)
	}
}

func TestT3Errors(t *testing.T) {
	keep := func(rules, signs []int, a, b int, want api.Errno) {
		t.Helper()
		what := fmt.Sprint(rules, signs, a, b)
		ones, all, e := trellis.Chances(rules, signs, a, b)
		hold.Same(t, "Chances "+what, e, want)
		hold.List(t, "told beside an error", ones)
		hold.Same(t, "told beside an error", all, 0)
		odds, e := trellis.Odds(rules, signs, a, b)
		hold.Same(t, "Odds "+what, e, want)
		hold.Same(t, "told beside an error", len(odds), 0)
	}
	rules, signs, want := wrongSigns()
	for i, e := range want {
		keep(rules[i], signs[i], 1, 4, e)
		keep(rules[i], signs[i], 5, -1, e)
	}
	for _, c := range [][2]int{
		{-1, 4}, {5, 4}, {2, 1}, {0, 0}, {1, 0}, {0, 5}, {1, 5}, {5, 5}, {-1, -1}, {0, -1}, {-2, -1},
		{math.MinInt, 4}, {math.MaxInt, 4}, {0, math.MaxInt}, {0, math.MinInt}, {math.MinInt, math.MinInt}, {math.MaxInt, math.MaxInt},
	} {
		keep([]int{1}, []int{0}, c[0], c[1], api.ErrLimit)
		keep([]int{1}, nil, c[0], c[1], api.ErrLimit)
	}
	keep([]int{1, 1}, make([]int, 26), 1, 4, api.ErrLimit)
	keep([]int{1, 1, 1}, make([]int, 60), 0, 1, api.ErrLimit)
	keep([]int{1, 4, 1}, make([]int, 27), 0, 1, api.ErrLimit)
}

func TestListsAreTheCallers(t *testing.T) {
	var handed hold.Handed
	rules, message := handed.List(7, 5), handed.List(1, 0, 1)
	signs := handed.List(encoded(rules, message)...)
	var out [][]int
	for range 2 {
		code, _ := trellis.Encode(rules, message)
		best, _, _ := trellis.Viterbi(rules, signs)
		ones, _, _ := trellis.Chances(rules, signs, 1, 4)
		odds, _ := trellis.Odds(rules, signs, 1, 4)
		hold.Same(t, "lists of their length", len(code)+len(best)+len(ones)+len(odds), 10+3+3+3)
		hold.Same(t, "the same odds again", odds[0] > 0.5 && odds[1] < 0.5, true)
		clear(odds)
		trellis.Check(rules)
		trellis.Length(rules, signs)
		out = append(out, code, best, ones)
	}
	handed.Apart(t, out...)
}
