package code_test

import (
	"math"
	"slices"
	"strings"
	"testing"

	"syndrome/api"
	"syndrome/code"
	"syndrome/field"
	"syndrome/hold"
	"syndrome/matrix"
)

// anyCode draws one that is small enough to go through all words of its length.
func anyCode(d *hold.Draw) api.Code {
	q := []int{2, 2, 3, 4, 5}[d.Below(5)]
	return codeOf(d, q, 1+d.Below(map[int]int{2: 6, 3: 4, 4: 3, 5: 3}[q]))
}

func codeOf(d *hold.Draw, q, n int) api.Code {
	c := api.Code{Q: q, N: n}
	for range d.Below(n + 2) {
		c.Rows = append(c.Rows, d.List(q, n))
	}
	return c
}

// sums: the sum of multiples of rows.
func sums(c api.Code, message []int) []int {
	f, _ := field.New(c.Q)
	word := make([]int, c.N)
	for i, times := range message {
		for j, v := range c.Rows[i] {
			word[j] = f.Add(word[j], f.Mul(times, v))
		}
	}
	return word
}

// products of rows with a word.
func products(f *field.Field, rows [][]int, word []int) []int {
	out := make([]int, len(rows))
	for i, row := range rows {
		for j, v := range row {
			out[i] = f.Add(out[i], f.Mul(v, word[j]))
		}
	}
	return out
}

func key(word []int) string {
	out := make([]byte, len(word))
	for i, v := range word {
		out[i] = byte(v)
	}
	return string(out)
}

// wordsOf: all words of a code.
func wordsOf(c api.Code) map[string][]int {
	out := map[string][]int{}
	for message := range hold.Each(c.Q, len(c.Rows)) {
		word := sums(c, message)
		out[key(word)] = word
	}
	return out
}

// isCode: is what a call told the code of these words, by its one form?
func isCode(t *testing.T, what string, got api.Code, q, n int, words map[string][]int) {
	t.Helper()
	hold.Same(t, what+": Q", got.Q, q)
	hold.Same(t, what+": N", got.N, n)
	rows, _, e := matrix.Reduce(got.Q, got.Rows)
	hold.Same(t, what+": error", e, api.OK)
	hold.Code(t, what+": its one form", got, api.Code{Q: q, N: n, Rows: rows})
	told := wordsOf(got)
	hold.Same(t, what+": words", len(told), len(words))
	for k := range told {
		if words[k] == nil {
			t.Fatalf("%s: %v is none of its words", what, told[k])
		}
	}
}

var hamming = api.Code{Q: 2, N: 7, Rows: [][]int{{1, 1, 0, 1, 0, 0, 0}, {0, 1, 1, 0, 1, 0, 0}, {0, 0, 1, 1, 0, 1, 0}, {0, 0, 0, 1, 1, 0, 1}}}

func TestC1Check(t *testing.T) {
	for _, c := range []struct {
		what string
		c    api.Code
		want api.Errno
	}{
		{"no rows", api.Code{Q: 2, N: 1}, api.OK},
		{"Hamming's", hamming, api.OK},
		{"the greatest", hold.AllWords(64, 64), api.OK},
		{"nothing", api.Code{}, api.ErrField},
		{"no field ahead of a length", api.Code{Q: 6, N: 0}, api.ErrField},
		{"no length", api.Code{Q: 2, N: 0}, api.ErrLimit},
		{"below all lengths", api.Code{Q: 2, N: -1}, api.ErrLimit},
		{"far below", api.Code{Q: 2, N: math.MinInt}, api.ErrLimit},
		{"too long", api.Code{Q: 2, N: 65}, api.ErrLimit},
		{"too long ahead of rows", api.Code{Q: 2, N: 65, Rows: [][]int{{}}}, api.ErrLimit},
		{"an empty row", api.Code{Q: 2, N: 1, Rows: [][]int{{}}}, api.ErrForm},
		{"too many rows", api.Code{Q: 2, N: 1, Rows: make([][]int, 65)}, api.ErrLimit},
		{"no element", api.Code{Q: 2, N: 1, Rows: [][]int{{2}}}, api.ErrValue},
		{"no element ahead of a row's length", api.Code{Q: 2, N: 1, Rows: [][]int{{0, 2}}}, api.ErrValue},
		{"longer rows", api.Code{Q: 2, N: 1, Rows: [][]int{{0, 1}}}, api.ErrForm},
		{"shorter rows", api.Code{Q: 2, N: 3, Rows: [][]int{{0, 1}, {1, 1}}}, api.ErrForm},
	} {
		hold.Same(t, c.what, code.Check(c.c), c.want)
	}
}

// says: what all calls say of a code.
func says(c api.Code) map[string]api.Errno {
	out := map[string]api.Errno{"Check": code.Check(c)}
	_, out["Make"] = code.Make(c)
	_, out["Dual"] = code.Dual(c)
	_, out["Encode"] = code.Encode(c, make([]int, 99))
	_, out["Syndrome"] = code.Syndrome(c, make([]int, 99))
	_, out["Has"] = code.Has(c, make([]int, 99))
	_, out["Weights"] = code.Weights(c)
	_, out["Distance"] = code.Distance(c)
	_, _, out["Nearest"] = code.Nearest(c, make([]int, 99))
	_, out["Puncture"] = code.Puncture(c, -1)
	_, out["Shorten"] = code.Shorten(c, -1)
	_, out["Extend"] = code.Extend(c)
	_, out["Sum, first"] = code.Sum(c, api.Code{Q: 2})
	_, out["Sum, second"] = code.Sum(hamming, c)
	_, out["Meet, first"] = code.Meet(c, api.Code{Q: 2})
	_, out["Meet, second"] = code.Meet(hamming, c)
	_, out["Print"] = code.Print(c)
	return out
}

func TestC1AllCallsCheck(t *testing.T) {
	for _, c := range []api.Code{
		{}, {Q: 6, N: 65}, {Q: 2, N: 65}, {Q: 2, N: 1, Rows: [][]int{{}}}, {Q: 2, N: 1, Rows: make([][]int, 65)},
		{Q: 2, N: 1, Rows: [][]int{{2}}}, {Q: 3, N: 1, Rows: [][]int{{0, 2}}},
	} {
		want := code.Check(c)
		if want == api.OK {
			t.Fatalf("%v may be", c)
		}
		for call, e := range says(c) {
			hold.Same(t, call, e, want)
		}
	}
}

func TestC1NothingBesideAnError(t *testing.T) {
	bad := api.Code{Q: 2, N: 2, Rows: [][]int{{1, 2}}}
	keep := func(c api.Code, e api.Errno) {
		t.Helper()
		hold.Code(t, "a code beside an error", c, api.Code{})
		hold.Same(t, "an error", e != api.OK, true)
	}
	keep(code.Make(bad))
	keep(code.Dual(bad))
	keep(code.Puncture(hamming, 7))
	keep(code.Shorten(hamming, 7))
	keep(code.Extend(hold.AllWords(2, 64)))
	keep(code.Sum(hamming, hold.AllWords(3, 7)))
	keep(code.Meet(hamming, hold.AllWords(2, 6)))
	keep(code.Parse("2 3\n1 1 1\n1 1"))
	keep(code.Parse("2 3\n1 1 1\n1 1 01"))
	word, _ := code.Encode(hamming, nil)
	syndrome, _ := code.Syndrome(hamming, nil)
	has, _ := code.Has(hamming, nil)
	weights, _ := code.Weights(hold.AllWords(2, 13))
	distance, _ := code.Distance(hold.AllWords(2, 13))
	near, off, _ := code.Nearest(hamming, nil)
	text, _ := code.Print(bad)
	hold.Same(t, "how much there is", len(word)+len(syndrome)+len(weights)+distance+len(near)+off+len(text), 0)
	hold.Same(t, "Has", has, false)
}

func TestC1MakeAndDual(t *testing.T) {
	d := hold.Draw(1)
	for range 200 {
		c := anyCode(&d)
		words := wordsOf(c)
		one, e := code.Make(c)
		hold.Same(t, "Make's error", e, api.OK)
		isCode(t, "Make", one, c.Q, c.N, words)
		f, _ := field.New(c.Q)
		noughts := map[string][]int{}
		for x := range hold.Each(c.Q, c.N) {
			if code.Weight(products(f, c.Rows, x)) == 0 {
				noughts[key(x)] = x
			}
		}
		dual, e := code.Dual(c)
		hold.Same(t, "Dual's error", e, api.OK)
		isCode(t, "Dual", dual, c.Q, c.N, noughts)
		again, _ := code.Dual(dual)
		hold.Code(t, "the dual's dual", again, one)
	}
	none, _ := code.Make(api.Code{Q: 9, N: 64, Rows: [][]int{make([]int, 64)}})
	hold.Code(t, "Make of noughts", none, api.Code{Q: 9, N: 64})
	all, _ := code.Dual(none)
	hold.Code(t, "Dual of noughts", all, hold.AllWords(9, 64))
	none, _ = code.Dual(all)
	hold.Code(t, "Dual of all", none, api.Code{Q: 9, N: 64})
}

func TestC2Encode(t *testing.T) {
	word, e := code.Encode(hamming, []int{1, 0, 1, 1})
	hold.Same(t, "Encode's error", e, api.OK)
	one, _ := code.Make(hamming)
	hold.List(t, "Encode", word, sums(one, []int{1, 0, 1, 1})...)
	hold.List(t, "the message stands at the pivots", word[:4], 1, 0, 1, 1)
	twice := api.Code{Q: 5, N: 3, Rows: [][]int{{2, 4, 1}, {1, 2, 3}}}
	word, _ = code.Encode(twice, []int{3})
	hold.List(t, "rows that hang on each other count once", word, 3, 1, 4)
	word, e = code.Encode(api.Code{Q: 5, N: 3}, nil)
	hold.Same(t, "no rows", e, api.OK)
	hold.List(t, "no rows", word, 0, 0, 0)
	for _, c := range []struct {
		message []int
		want    api.Errno
	}{
		{nil, api.ErrCount}, {[]int{1, 7}, api.ErrCount}, {[]int{5}, api.ErrValue}, {[]int{-1}, api.ErrValue}, {[]int{4}, api.OK},
	} {
		_, e := code.Encode(twice, c.message)
		hold.Same(t, "Encode", e, c.want)
	}
}

func TestC2SyndromeAndHas(t *testing.T) {
	s, e := code.Syndrome(hamming, []int{1, 0, 1, 0, 1, 0, 1})
	hold.Same(t, "Syndrome's error", e, api.OK)
	hold.List(t, "Syndrome", s, 0, 1, 1)
	d := hold.Draw(2)
	for range 60 {
		c := anyCode(&d)
		words := wordsOf(c)
		dual, _ := code.Dual(c)
		f, _ := field.New(c.Q)
		for x := range hold.Each(c.Q, c.N) {
			s, _ := code.Syndrome(c, x)
			hold.List(t, "Syndrome", s, products(f, dual.Rows, x)...)
			has, e := code.Has(c, x)
			hold.Same(t, "Has's error", e, api.OK)
			hold.Same(t, "Has", has, words[key(x)] != nil)
		}
	}
	s, e = code.Syndrome(hold.AllWords(3, 2), []int{1, 2})
	hold.Same(t, "of all words", e, api.OK)
	hold.Same(t, "of all words", len(s), 0)
}

func TestC2WrongWords(t *testing.T) {
	for _, c := range []struct {
		w    []int
		want api.Errno
	}{
		{nil, api.ErrCount}, {make([]int, 6), api.ErrCount}, {slices.Repeat([]int{2}, 8), api.ErrCount},
		{[]int{0, 0, 0, 0, 0, 0, 2}, api.ErrValue}, {[]int{-1, 0, 0, 0, 0, 0, 0}, api.ErrValue}, {make([]int, 7), api.OK},
	} {
		_, e := code.Syndrome(hamming, c.w)
		hold.Same(t, "Syndrome", e, c.want)
		_, e = code.Has(hamming, c.w)
		hold.Same(t, "Has", e, c.want)
		_, _, e = code.Nearest(hamming, c.w)
		hold.Same(t, "Nearest", e, c.want)
	}
}

func TestC2WeightAndApart(t *testing.T) {
	hold.Same(t, "of nothing", code.Weight(nil), 0)
	hold.Same(t, "of any numbers", code.Weight([]int{0, -1, math.MaxInt, 0, 7}), 3)
	hold.Same(t, "of nothing, twice", code.Apart(nil, []int{}), 0)
	hold.Same(t, "of any numbers", code.Apart([]int{1, -2, 3}, []int{1, 2, math.MinInt}), 2)
	hold.Same(t, "a longer one", code.Apart([]int{1}, []int{1, 2}), -1)
	hold.Same(t, "a shorter one", code.Apart([]int{1, 2}, nil), -1)
}

func TestC3WeightsAndDistance(t *testing.T) {
	weights, e := code.Weights(hamming)
	hold.Same(t, "Weights's error", e, api.OK)
	hold.List(t, "Weights", weights, 1, 0, 0, 7, 7, 0, 0, 1)
	d := hold.Draw(3)
	for range 100 {
		c := anyCode(&d)
		want, least := make([]int, c.N+1), 0
		for _, word := range wordsOf(c) {
			w := code.Weight(word)
			want[w]++
			if w > 0 && (least == 0 || w < least) {
				least = w
			}
		}
		weights, _ := code.Weights(c)
		hold.List(t, "Weights", weights, want...)
		distance, e := code.Distance(c)
		hold.Same(t, "Distance's error", e, api.OK)
		hold.Same(t, "Distance", distance, least)
	}
	weights, _ = code.Weights(api.Code{Q: 64, N: 3})
	hold.List(t, "one word", weights, 1, 0, 0, 0)
	distance, e := code.Distance(api.Code{Q: 64, N: 3})
	hold.Same(t, "one word's error", e, api.OK)
	hold.Same(t, "one word", distance, 0)
}

func TestC3Limit(t *testing.T) {
	for _, c := range []struct {
		c    api.Code
		want api.Errno
	}{
		{hold.AllWords(2, 12), api.OK}, {hold.AllWords(64, 2), api.OK}, {hold.AllWords(2, 13), api.ErrLimit}, {hold.AllWords(64, 3), api.ErrLimit},
		{hold.AllWords(3, 7), api.OK}, {hold.AllWords(3, 8), api.ErrLimit}, {hold.AllWords(64, 64), api.ErrLimit}, {hold.AllWords(2, 64), api.ErrLimit},
		{api.Code{Q: 2, N: 1, Rows: slices.Repeat([][]int{{1}}, 64)}, api.OK}, // many rows, two words
	} {
		_, e := code.Weights(c.c)
		hold.Same(t, "Weights", e, c.want)
		_, e = code.Distance(c.c)
		hold.Same(t, "Distance", e, c.want)
		_, _, e = code.Nearest(c.c, make([]int, c.c.N))
		hold.Same(t, "Nearest", e, c.want)
	}
	_, _, e := code.Nearest(hold.AllWords(2, 13), []int{7})
	hold.Same(t, "the limit ahead of the word", e, api.ErrLimit)
}

func TestC3Nearest(t *testing.T) {
	word, off, e := code.Nearest(hamming, []int{1, 1, 1, 1, 0, 0, 0})
	hold.Same(t, "Nearest's error", e, api.OK)
	hold.List(t, "Nearest", word, 1, 1, 0, 1, 0, 0, 0)
	hold.Same(t, "Nearest", off, 1)
	d := hold.Draw(4)
	for range 150 {
		c := anyCode(&d)
		one, _ := code.Make(c)
		w := d.List(c.Q, c.N)
		var want []int
		least := c.N + 1
		for message := range hold.Each(c.Q, len(one.Rows)) {
			if word := sums(one, message); code.Apart(word, w) < least {
				want, least = word, code.Apart(word, w)
			}
		}
		word, off, _ := code.Nearest(c, w)
		hold.List(t, "Nearest", word, want...)
		hold.Same(t, "Nearest", off, least)
	}
	word, off, _ = code.Nearest(api.Code{Q: 3, N: 2}, []int{1, 2})
	hold.List(t, "one word", word, 0, 0)
	hold.Same(t, "one word", off, 2)
}

// without: words less a place; of zero only those that are 0 there.
func without(c api.Code, place int, zero bool) map[string][]int {
	out := map[string][]int{}
	for _, word := range wordsOf(c) {
		if !zero || word[place] == 0 {
			short := slices.Concat(word[:place], word[place+1:])
			out[key(short)] = short
		}
	}
	return out
}

func TestC4PunctureAndShorten(t *testing.T) {
	d := hold.Draw(5)
	for range 200 {
		c := anyCode(&d)
		if c.N == 1 {
			continue
		}
		place := d.Below(c.N)
		got, e := code.Puncture(c, place)
		hold.Same(t, "Puncture's error", e, api.OK)
		isCode(t, "Puncture", got, c.Q, c.N-1, without(c, place, false))
		got, e = code.Shorten(c, place)
		hold.Same(t, "Shorten's error", e, api.OK)
		isCode(t, "Shorten", got, c.Q, c.N-1, without(c, place, true))
	}
	for _, c := range []struct {
		c     api.Code
		place int
		want  api.Errno
	}{
		{hamming, -1, api.ErrPlace}, {hamming, 7, api.ErrPlace}, {hamming, math.MinInt, api.ErrPlace}, {hamming, 0, api.OK}, {hamming, 6, api.OK},
		{hold.AllWords(2, 1), 1, api.ErrPlace}, {hold.AllWords(2, 1), 0, api.ErrLimit}, {api.Code{Q: 2, N: 1}, 0, api.ErrLimit}, {hold.AllWords(64, 64), 63, api.OK},
	} {
		_, e := code.Puncture(c.c, c.place)
		hold.Same(t, "Puncture", e, c.want)
		_, e = code.Shorten(c.c, c.place)
		hold.Same(t, "Shorten", e, c.want)
	}
}

func TestC4Extend(t *testing.T) {
	got, _ := code.Extend(api.Code{Q: 3, N: 4, Rows: [][]int{{1, 0, 1, 1}, {0, 1, 1, 2}}})
	hold.Code(t, "Extend", got, api.Code{Q: 3, N: 5, Rows: [][]int{{1, 0, 1, 1, 0}, {0, 1, 1, 2, 2}}})
	d := hold.Draw(6)
	for range 100 {
		c := anyCode(&d)
		f, _ := field.New(c.Q)
		want := map[string][]int{}
		for _, word := range wordsOf(c) {
			sum := 0
			for _, v := range word {
				sum = f.Add(sum, v)
			}
			long := append(slices.Clone(word), f.Neg(sum))
			want[key(long)] = long
		}
		got, e := code.Extend(c)
		hold.Same(t, "Extend's error", e, api.OK)
		isCode(t, "Extend", got, c.Q, c.N+1, want)
	}
	_, e := code.Extend(hold.AllWords(2, 64))
	hold.Same(t, "the longest", e, api.ErrLimit)
	got, e = code.Extend(api.Code{Q: 2, N: 63})
	hold.Same(t, "the longest but one", e, api.OK)
	hold.Code(t, "the longest but one", got, api.Code{Q: 2, N: 64})
}

func TestC4SumAndMeet(t *testing.T) {
	d := hold.Draw(7)
	for range 200 {
		a := anyCode(&d)
		b := codeOf(&d, a.Q, a.N)
		first, second := wordsOf(a), wordsOf(b)
		meet := map[string][]int{}
		for k, word := range first {
			if second[k] != nil {
				meet[k] = word
			}
		}
		both := api.Code{Q: a.Q, N: a.N, Rows: slices.Concat(a.Rows, b.Rows)}
		one, _ := code.Make(both)
		got, e := code.Sum(a, b)
		hold.Same(t, "Sum's error", e, api.OK)
		isCode(t, "Sum", got, a.Q, a.N, wordsOf(one))
		got, e = code.Meet(a, b)
		hold.Same(t, "Meet's error", e, api.OK)
		isCode(t, "Meet", got, a.Q, a.N, meet)
	}
}

// TestC4MostRows: both codes together have more rows than a matrix may have.
func TestC4MostRows(t *testing.T) {
	d := hold.Draw(8)
	for _, q := range []int{2, 7, 64} {
		all, half := hold.AllWords(q, 64), hold.AllWords(q, 64)
		half.Rows = half.Rows[:63]
		other := api.Code{Q: q, N: 64}
		for range 64 {
			other.Rows = append(other.Rows, append([]int{0}, d.List(q, 63)...))
		}
		got, e := code.Sum(all, all)
		hold.Same(t, "Sum's error", e, api.OK)
		hold.Code(t, "Sum of all", got, all)
		got, _ = code.Sum(half, other)
		hold.Code(t, "Sum of nearly all", got, all)
		got, _ = code.Meet(all, half)
		hold.Code(t, "Meet of nearly all", got, half)
		got, _ = code.Meet(half, api.Code{Q: q, N: 64})
		hold.Code(t, "Meet with one word", got, api.Code{Q: q, N: 64})
	}
}

func TestC4SumAndMeetErrors(t *testing.T) {
	for _, other := range []api.Code{hold.AllWords(3, 7), hold.AllWords(2, 6), hold.AllWords(3, 6), {Q: 4, N: 7}} {
		_, e := code.Sum(hamming, other)
		hold.Same(t, "Sum", e, api.ErrForm)
		_, e = code.Meet(other, hamming)
		hold.Same(t, "Meet", e, api.ErrForm)
	}
}

func TestC5Print(t *testing.T) {
	text, e := code.Print(api.Code{Q: 64, N: 3, Rows: [][]int{{1, 63, 10}, {0, 0, 0}}})
	hold.Same(t, "Print's error", e, api.OK)
	hold.Same(t, "Print", text, "64 3\n1 63 10\n")
	text, _ = code.Print(hamming)
	hold.Same(t, "Print", text, "2 7\n1 0 0 0 1 1 0\n0 1 0 0 0 1 1\n0 0 1 0 1 1 1\n0 0 0 1 1 0 1\n")
	text, _ = code.Print(api.Code{Q: 9, N: 64})
	hold.Same(t, "Print of one word", text, "9 64\n")
}

func TestC5ParseReadsWhatPrintTells(t *testing.T) {
	d := hold.Draw(9)
	for range 100 {
		c := anyCode(&d)
		text, _ := code.Print(c)
		one, _ := code.Make(c)
		for _, x := range []string{text, strings.TrimSuffix(text, "\n")} {
			got, e := code.Parse(x)
			hold.Same(t, "Parse's error", e, api.OK)
			hold.Code(t, "Parse", got, one)
		}
	}
	got, _ := code.Parse("3 2\n2 2\n1 1\n0 0")
	hold.Code(t, "what Make says", got, api.Code{Q: 3, N: 2, Rows: [][]int{{1, 1}}})
}

func TestC5ParseErrors(t *testing.T) {
	for _, c := range []struct {
		text string
		want api.Errno
	}{
		{"", api.ErrShort},
		{"\n", api.ErrWord},
		{"\n\n", api.ErrWord},
		{"2 3\n\n", api.ErrWord},
		{"\n2 3", api.ErrWord},
		{" 2 3", api.ErrWord},
		{"2 3 ", api.ErrWord},
		{"2  3", api.ErrWord},
		{"2\t3", api.ErrWord},
		{"2 3\r\n", api.ErrWord},
		{"+2 3", api.ErrWord},
		{"-2 3", api.ErrWord},
		{"2 3\n1 0 ٣", api.ErrWord},
		{"2 3\n1 0 \xff", api.ErrWord},
		{"2 3\n1 0 1\x00", api.ErrWord},
		{"02 3", api.ErrWord},
		{"2 00", api.ErrWord},
		{"2 010000", api.ErrWord},
		{"2 10000x", api.ErrWord},
		{"2 3\n10000 1 1", api.ErrLimit},
		{"2 3\n10000 1 x", api.ErrLimit},
		{"2 99999999999999999999999999", api.ErrLimit},
		{"2 18446744073709551618", api.ErrLimit},
		{"2", api.ErrCount},
		{"2 3 4", api.ErrCount},
		{"2 3 4\nx", api.ErrCount},
		{"2 3 x", api.ErrWord},
		{"6 3", api.ErrField},
		{"6 3\nx", api.ErrWord},
		{"9999 3", api.ErrField},
		{"2 0", api.ErrLimit},
		{"2 65", api.ErrLimit},
		{"2 3\n1 0", api.ErrForm},
		{"2 3\n1 0 1\n1", api.ErrForm},
		{"2 3\n1 0 2", api.ErrValue},
		{"2 1" + strings.Repeat("\n1", 64), api.OK},
		{"2 1" + strings.Repeat("\n1", 65), api.ErrLimit},
		{"2 3" + strings.Repeat("x", api.MaxText-3), api.ErrWord},
		{"2 3" + strings.Repeat("x", api.MaxText-2), api.ErrLimit},
	} {
		got, e := code.Parse(c.text)
		hold.Same(t, "Parse of "+c.text[:min(len(c.text), 30)], e, c.want)
		if e != api.OK {
			hold.Code(t, "a code beside an error", got, api.Code{})
		}
	}
}

// TestListsAreTheCallers: nothing that is handed in is written into, and what comes out shares no memory with it, nor with each other.
func TestListsAreTheCallers(t *testing.T) {
	one, row := api.Code{Q: 5, N: 3, Rows: [][]int{[]int{1, 0, 2, 9}[:3], []int{0, 1, 3, 9}[:3]}}, []int{4, 4, 1}
	other := api.Code{Q: 5, N: 3, Rows: [][]int{row, row}}
	var outs [][]int
	keep := func(c api.Code, _ api.Errno) { outs = append(outs, c.Rows...) }
	for _, c := range []api.Code{one, other, {Q: 5, N: 3}} {
		keep(code.Make(c))
		keep(code.Dual(c))
		keep(code.Puncture(c, 2))
		keep(code.Shorten(c, 0))
		keep(code.Extend(c))
		keep(code.Sum(c, other))
		keep(code.Meet(one, c))
		w, _, _ := code.Nearest(c, row)
		s, _ := code.Syndrome(c, row)
		weights, _ := code.Weights(c)
		outs = append(outs, w, s, weights)
	}
	word, _ := code.Encode(one, []int{1, 0})
	outs = append(outs, word)
	hold.Apart(t, outs...)
	hold.List(t, "what was handed in", one.Rows[0][:4], 1, 0, 2, 9)
	hold.List(t, "what was handed in", one.Rows[1][:4], 0, 1, 3, 9)
	hold.List(t, "what was handed in", row, 4, 4, 1)
}
