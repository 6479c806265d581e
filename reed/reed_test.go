package reed_test

import (
	"fmt"
	"math"
	"slices"
	"testing"

	"syndrome/api"
	"syndrome/field"
	"syndrome/hold"
	"syndrome/matrix"
	"syndrome/reed"
)

// ways: both that R2 names.
var ways = map[string]func(q int, xs []int, k int, w []int) ([]int, int, bool, api.Errno){"Solve": reed.Solve, "Euclid": reed.Euclid}

var sizes = []int{2, 3, 4, 5, 7, 8, 9, 11, 13, 16, 25, 27, 32, 49, 61, 64}

// wordOf: the sum of a message's numbers, each times a power of the place.
func wordOf(q int, xs, message []int) []int {
	f, _ := field.New(q)
	out := make([]int, len(xs))
	for place, x := range xs {
		for i, v := range message {
			out[place] = f.Add(out[place], f.Mul(v, f.Pow(x, i)))
		}
	}
	return out
}

// places: what Check says of places and a dimension.
var places = []struct {
	q    int
	xs   []int
	k    int
	want api.Errno
}{
	{5, []int{0, 1, 2, 3, 4}, 1, api.OK}, {5, []int{4, 0, 2}, 3, api.OK}, {2, []int{1}, 1, api.OK}, {64, hold.UpTo(64), 64, api.OK}, {61, hold.UpTo(61), 61, api.OK},
	{6, nil, 0, api.ErrField}, {1, []int{0}, 1, api.ErrField}, {0, []int{0}, 1, api.ErrField}, {-2, []int{0}, 1, api.ErrField}, {65, hold.UpTo(65), 1, api.ErrField},
	{math.MaxInt, []int{0}, 1, api.ErrField}, {math.MinInt, []int{0}, 1, api.ErrField},
	{5, nil, 1, api.ErrLimit}, {5, nil, 0, api.ErrLimit}, {64, hold.UpTo(65), 1, api.ErrLimit}, {64, append(hold.UpTo(64), 0), 1, api.ErrLimit}, {2, make([]int, 65), 0, api.ErrLimit},
	{2, make([]int, 64), 1, api.ErrTwice},
	{5, []int{0, 5}, 1, api.ErrValue}, {5, []int{-1, 0}, 1, api.ErrValue}, {5, []int{0, math.MaxInt}, 0, api.ErrValue}, {5, []int{math.MinInt}, 9, api.ErrValue},
	{5, []int{0, 0}, 1, api.ErrTwice}, {5, []int{0, 1, 2, 1}, 0, api.ErrTwice},
	{5, []int{1, 1, 5}, 1, api.ErrTwice}, {5, []int{5, 1, 1}, 1, api.ErrValue}, {5, []int{5, 5}, 1, api.ErrValue}, // a place is asked for all of it ahead of the next one
	{5, []int{0, 1}, 0, api.ErrCount}, {5, []int{0, 1}, 3, api.ErrCount}, {5, []int{0, 1}, -1, api.ErrCount}, {5, []int{0, 1}, math.MaxInt, api.ErrCount}, {5, []int{0, 1}, math.MinInt, api.ErrCount},
}

func TestR1Check(t *testing.T) {
	for _, c := range places {
		hold.Same(t, fmt.Sprint("Check ", c.q, c.xs, c.k), reed.Check(c.q, c.xs, c.k), c.want)
	}
}

func TestR1Encode(t *testing.T) {
	d := hold.Draw(1)
	for _, q := range sizes {
		for range 30 {
			xs := d.Different(q, 1+d.Below(q))
			message := d.List(q, 1+d.Below(len(xs)))
			got, e := reed.Encode(q, xs, message)
			hold.Same(t, fmt.Sprint("the error of Encode ", q, xs, message), e, api.OK)
			hold.List(t, fmt.Sprint("Encode ", q, xs, message), got, wordOf(q, xs, message)...)
		}
	}
	got, _ := reed.Encode(7, hold.UpTo(6), []int{1, 1})
	hold.List(t, "Encode 7", got, 1, 2, 3, 4, 5, 6)
	got, _ = reed.Encode(8, []int{5, 0, 3}, []int{0, 1, 0})
	hold.List(t, "Encode 8", got, 5, 0, 3)
}

func TestR1EncodeErrors(t *testing.T) {
	for _, c := range places {
		if c.k < 0 || c.k > api.MaxLength+1 {
			continue
		}
		got, e := reed.Encode(c.q, c.xs, make([]int, c.k))
		hold.Same(t, fmt.Sprint("Encode ", c.q, c.xs, c.k), e, c.want)
		if e != api.OK {
			hold.List(t, "what is told beside an error", got)
		}
	}
	for _, c := range []struct {
		xs, message []int
		want        api.Errno
	}{
		{[]int{0, 1, 2}, nil, api.ErrCount}, {[]int{0, 1, 2}, []int{1, 2, 3, 4}, api.ErrCount}, {[]int{0, 1, 2}, []int{9, 9, 9, 9}, api.ErrCount},
		{[]int{0, 1, 2}, make([]int, api.MaxCoefs+1), api.ErrCount}, {[]int{0, 1, 2}, []int{0, 5}, api.ErrValue}, {[]int{0, 1, 2}, []int{-1}, api.ErrValue},
		{[]int{0, 1, 2}, []int{math.MaxInt, 0, 0}, api.ErrValue}, {[]int{0, 1, 2}, []int{0, 0, math.MinInt}, api.ErrValue},
		{[]int{0, 1, 1}, []int{7}, api.ErrTwice}, {[]int{0, 1, 5}, []int{7}, api.ErrValue}, {nil, []int{7}, api.ErrLimit},
	} {
		got, e := reed.Encode(5, c.xs, c.message)
		hold.Same(t, fmt.Sprint("Encode ", 5, c.xs, c.message), e, c.want)
		hold.List(t, "what is told beside an error", got)
	}
}

// words: what Word says of them.
var words = []struct {
	q    int
	xs   []int
	k    int
	w    []int
	want api.Errno
}{
	{5, []int{0, 1, 2}, 1, []int{4, 0, 3}, api.OK}, {5, []int{0, 1, 2}, 3, []int{-1, -1, -1}, api.OK}, {5, []int{0, 1, 2}, 3, []int{0, -1, 4}, api.OK},
	{5, []int{0, 1, 2}, 1, []int{0, 0}, api.ErrCount}, {5, []int{0, 1, 2}, 1, []int{0, 0, 0, 0}, api.ErrCount}, {5, []int{0, 1, 2}, 1, nil, api.ErrCount}, {5, []int{0, 1, 2}, 1, []int{9}, api.ErrCount},
	{5, []int{0, 1, 2}, 1, []int{0, 0, 5}, api.ErrValue}, {5, []int{0, 1, 2}, 1, []int{-2, 0, 0}, api.ErrValue}, {5, []int{0, 1, 2}, 1, []int{0, math.MaxInt, 0}, api.ErrValue},
	{5, []int{0, 1, 2}, 1, []int{0, math.MinInt, 0}, api.ErrValue}, {5, []int{0, 1, 2}, 3, []int{-1, -1, 7}, api.ErrValue},
	{5, []int{0, 1, 2}, 0, []int{0, 0}, api.ErrCount}, {5, []int{0, 1, 2}, 4, []int{9, 0, 0}, api.ErrCount}, {5, []int{0, 1, 0}, 1, nil, api.ErrTwice}, {5, []int{0, 1, 9}, 1, nil, api.ErrValue},
}

// notTold: what both ways tell of words that may not be.
func notTold(t *testing.T, q int, xs []int, k int, w []int, want api.Errno) {
	t.Helper()
	for name, way := range ways {
		message, errors, ok, e := way(q, xs, k, w)
		what := fmt.Sprint(name, " ", q, xs, k, w)
		hold.Same(t, "the error of "+what, e, want)
		hold.List(t, what, message)
		hold.Same(t, what, errors, 0)
		hold.Same(t, what, ok, false)
	}
}

func TestR1Word(t *testing.T) {
	for _, c := range words {
		hold.Same(t, fmt.Sprint("Word ", c.q, c.xs, c.k, c.w), reed.Word(c.q, c.xs, c.k, c.w), c.want)
	}
	for _, c := range places {
		hold.Same(t, fmt.Sprint("Word ", c.q, c.xs, c.k), reed.Word(c.q, c.xs, c.k, make([]int, len(c.xs))), c.want)
		if c.want != api.OK {
			hold.Same(t, fmt.Sprint("Word ", c.q, c.xs, c.k), reed.Word(c.q, c.xs, c.k, append(make([]int, len(c.xs)), -7)), c.want)
		}
	}
}

func TestR2Errors(t *testing.T) {
	for _, c := range words {
		if c.want != api.OK {
			notTold(t, c.q, c.xs, c.k, c.w, c.want)
		}
	}
	for _, c := range places {
		if c.want != api.OK {
			notTold(t, c.q, c.xs, c.k, make([]int, len(c.xs)), c.want)
			notTold(t, c.q, c.xs, c.k, []int{-7}, c.want)
		}
	}
}

// told holds what both ways tell.
func told(t *testing.T, q int, xs []int, k int, w, message []int, errors int) {
	t.Helper()
	for name, way := range ways {
		gotMessage, gotErrors, ok, e := way(q, xs, k, w)
		what := fmt.Sprint(name, " ", q, xs, k, w)
		hold.Same(t, "the error of "+what, e, api.OK)
		hold.Same(t, what, ok, true)
		hold.List(t, what, gotMessage, message...)
		hold.Same(t, "the errors of "+what, gotErrors, errors)
	}
}

// apart: at how many places that are not lost a word differs from what came; and how many are not lost.
func apart(word, w []int) (errors, n int) {
	for i, v := range w {
		if v >= 0 {
			n++
			if v != word[i] {
				errors++
			}
		}
	}
	return errors, n
}

// asMessagesTell holds both ways against all messages, gone through one by one; all: the message and the word of each.
func asMessagesTell(t *testing.T, q int, xs []int, k int, w []int, all [][2][]int) (found bool) {
	t.Helper()
	for _, m := range all {
		if errors, n := apart(m[1], w); 2*errors <= n-k {
			told(t, q, xs, k, w, m[0], errors)
			return true
		}
	}
	notTold(t, q, xs, k, w, api.OK)
	return false
}

// allMessages: each of k numbers, with its word.
func allMessages(q int, xs []int, k int) (all [][2][]int) {
	for message := range hold.Each(q, k) {
		all = append(all, [2][]int{message, wordOf(q, xs, message)})
	}
	return all
}

// TestR2AllWords: each word that may come, over small fields.
func TestR2AllWords(t *testing.T) {
	for _, xs := range [][]int{{0}, {1}, {1, 0}, {2, 0}, {0, 2, 1}, {3, 1, 0}, {2, 3, 0, 1}} {
		for _, q := range []int{2, 3, 4} {
			if slices.Max(xs) >= q {
				continue
			}
			for k := 1; k <= len(xs); k++ {
				all := allMessages(q, xs, k)
				for w := range hold.Each(q+1, len(xs)) {
					for i := range w {
						w[i]--
					}
					asMessagesTell(t, q, xs, k, w, all)
				}
			}
		}
	}
}

// TestR2DrawnWords: as many errors as there may be, and more.
func TestR2DrawnWords(t *testing.T) {
	d := hold.Draw(2)
	near, far := 0, 0
	for _, c := range [][2]int{{5, 1}, {5, 2}, {5, 3}, {5, 4}, {5, 5}, {7, 1}, {7, 2}, {7, 3}, {8, 2}, {8, 3}, {9, 1}, {9, 3}, {11, 2}, {16, 2}, {25, 1}, {27, 1}, {64, 1}} {
		q, k := c[0], c[1]
		xs := d.Different(q, k+d.Below(q-k+1))
		all := allMessages(q, xs, k)
		for range 60 {
			w := slices.Clone(all[d.Below(len(all))][1])
			for range d.Below(len(xs) + 1) {
				w[d.Below(len(w))] = d.Below(q+1) - 1
			}
			if asMessagesTell(t, q, xs, k, w, all) {
				near++
			} else {
				far++
			}
		}
	}
	if near < 100 || far < 100 {
		t.Fatalf("%d words were near enough, %d were not", near, far)
	}
}

// spoil loses numbers of a word, and changes others.
func spoil(d *hold.Draw, q int, word []int, lost, errors int) []int {
	out := slices.Clone(word)
	for i, place := range d.Different(len(word), lost+errors) {
		if i < lost {
			out[place] = -1
		} else {
			out[place] = (out[place] + 1 + d.Below(q-1)) % q
		}
	}
	return out
}

// TestR2FewErrorsAreMended: up to the last one that may be, over all fields.
func TestR2FewErrorsAreMended(t *testing.T) {
	d := hold.Draw(3)
	for _, q := range sizes {
		for range 12 {
			xs := d.Different(q, q-d.Below(min(q, 3)))
			k := 1 + d.Below(len(xs))
			message := d.List(q, k)
			lost := d.Below(len(xs) - k + 1)
			most := (len(xs) - lost - k) / 2
			for _, errors := range []int{0, most, d.Below(most + 1)} {
				told(t, q, xs, k, spoil(&d, q, wordOf(q, xs, message), lost, errors), message, errors)
			}
		}
	}
}

// TestR2LongWords: 64 numbers, of which an even and an odd number is over.
func TestR2LongWords(t *testing.T) {
	d := hold.Draw(4)
	xs := d.Different(64, 64)
	for _, k := range []int{1, 2, 31, 32, 61, 62, 63, 64} {
		message := d.List(64, k)
		most := (64 - k) / 2
		told(t, 64, xs, k, spoil(&d, 64, wordOf(64, xs, message), 0, most), message, most)
		told(t, 64, xs, k, spoil(&d, 64, wordOf(64, xs, message), 64-k, 0), message, 0)
		notTold(t, 64, xs, k, spoil(&d, 64, wordOf(64, xs, message), 65-k, 0), api.OK)
		told(t, 64, xs, k, make([]int, 64), make([]int, k), 0)
	}
}

func TestR2Answers(t *testing.T) {
	told(t, 7, hold.UpTo(6), 2, []int{1, 2, 0, 4, 6, 6}, []int{1, 1}, 2)
	told(t, 7, hold.UpTo(6), 2, []int{1, 2, 3, 4, 5, 6}, []int{1, 1}, 0)
	told(t, 5, hold.UpTo(3), 2, []int{1, 1, 1}, []int{1, 0}, 0) // as many numbers as k, noughts too
	told(t, 5, hold.UpTo(3), 3, []int{0, 0, 0}, []int{0, 0, 0}, 0)
	told(t, 5, hold.UpTo(3), 1, []int{2, 3, 3}, []int{3}, 1)   // 2 e is n - k
	told(t, 5, hold.UpTo(3), 1, []int{-1, 3, 3}, []int{3}, 0)  // 2 e is below n - k
	told(t, 5, hold.UpTo(3), 1, []int{-1, 3, -1}, []int{3}, 0) // n is k
	notTold(t, 5, hold.UpTo(3), 1, []int{-1, 2, 3}, api.OK)    // of two one is wrong
	notTold(t, 5, hold.UpTo(3), 1, []int{1, 2, 3}, api.OK)
	notTold(t, 5, hold.UpTo(3), 1, []int{-1, -1, -1}, api.OK)
	notTold(t, 5, hold.UpTo(3), 3, []int{1, -1, 1}, api.OK)
	notTold(t, 5, hold.UpTo(4), 3, []int{0, 0, 0, 1}, api.OK) // n - k is 1
	notTold(t, 8, hold.UpTo(7), 3, []int{1, -1, 3, 4, -1, 6, 7}, api.OK)
}

// holds: does a rule hold of a list, from a number on?
func holds(q int, rule, s []int, from int) bool {
	f, _ := field.New(q)
	for i := from; i < len(s); i++ {
		sum := 0
		for j, c := range rule {
			sum = f.Add(sum, f.Mul(c, s[i-j]))
		}
		if sum != 0 {
			return false
		}
	}
	return true
}

// hasRule: is there a rule that looks at so many numbers ahead? By equations.
func hasRule(t *testing.T, q int, s []int, length int) bool {
	t.Helper()
	f, _ := field.New(q)
	var rows [][]int
	var right []int
	for i := length; i < len(s); i++ {
		row := slices.Clone(s[i-length : i])
		slices.Reverse(row)
		rows, right = append(rows, row), append(right, f.Neg(s[i]))
	}
	if length == 0 {
		return !slices.ContainsFunc(s, func(v int) bool { return v != 0 })
	}
	_, ok, e := matrix.Solve(q, rows, right)
	hold.Same(t, "the error of matrix.Solve", e, api.OK)
	return ok
}

// isShortest holds what Massey tells: a rule, and none is shorter.
func isShortest(t *testing.T, q int, s []int) (rule []int, length int) {
	t.Helper()
	rule, length, e := reed.Massey(q, s)
	what := fmt.Sprint("Massey ", q, s, " => ", rule, " ", length)
	hold.Same(t, "the error of "+what, e, api.OK)
	if length < 0 || length > len(s) || len(rule) == 0 || rule[0] != 1 || len(rule) > length+1 || rule[len(rule)-1] == 0 {
		t.Fatal(what)
	}
	for _, c := range rule {
		hold.Same(t, what+": an element", c >= 0 && c < q, true)
	}
	hold.Same(t, what+": it holds", holds(q, rule, s, length), true)
	if length > 0 { // where there is a rule, there is a longer one, too
		hold.Same(t, what+": a shorter one", hasRule(t, q, s, length-1), false)
	}
	return rule, length
}

func TestR3AllLists(t *testing.T) {
	for q, long := range map[int]int{2: 9, 3: 6, 4: 5, 5: 4, 7: 3, 9: 3} {
		for many := range long + 1 {
			for s := range hold.Each(q, many) {
				isShortest(t, q, s)
			}
		}
	}
}

func TestR3DrawnLists(t *testing.T) {
	d := hold.Draw(5)
	for _, q := range sizes {
		for range 12 {
			isShortest(t, q, d.List(q, d.Below(65)))
			rule := append([]int{1}, d.List(q, 1+d.Below(20))...)
			isShortest(t, q, follow(q, rule, d.List(q, len(rule)-1), 64))
			isShortest(t, q, append(make([]int, d.Below(30)), d.List(q, d.Below(30))...))
			isShortest(t, q, append(d.List(q, d.Below(30)), make([]int, d.Below(30))...))
		}
	}
}

// follow: a list of so many numbers that keeps to a rule behind its beginning.
func follow(q int, rule, begin []int, many int) []int {
	f, _ := field.New(q)
	s := slices.Clone(begin)
	for i := len(s); i < many; i++ {
		sum := 0
		for j, c := range rule[1:] {
			sum = f.Add(sum, f.Mul(c, s[i-1-j]))
		}
		s = append(s, f.Neg(sum))
	}
	return s
}

// TestR3LongLists: as many numbers as may be. Behind 49 noughts a 1 hangs on no fewer than 50; and of so many numbers there is but one such rule.
func TestR3LongLists(t *testing.T) {
	d := hold.Draw(6)
	begin := append(make([]int, 49), 1)
	for _, q := range sizes {
		for _, last := range []int{0, 1} {
			want := slices.Concat([]int{1}, d.List(q, 48), []int{1})
			s := follow(q, append(want, last), begin, api.MaxCoefs)
			rule, length, e := reed.Massey(q, s)
			hold.Same(t, "the error of Massey", e, api.OK)
			hold.Same(t, fmt.Sprint("Massey ", q, s), length, 50)
			if last > 0 {
				want = append(want, last)
			}
			hold.List(t, fmt.Sprint("Massey ", q, s), rule, want...)
		}
	}
	last := make([]int, api.MaxCoefs)
	last[api.MaxCoefs-1] = 3
	_, length, _ := reed.Massey(5, last)
	hold.Same(t, "Massey of a 3 behind noughts", length, api.MaxCoefs)
}

func TestR3Answers(t *testing.T) {
	for _, c := range []struct {
		q       int
		s, rule []int // (no rule: one of several)
		length  int
	}{
		{2, []int{0, 0, 1, 1, 0, 1, 1, 0}, []int{1, 1, 1}, 3}, {2, nil, []int{1}, 0}, {2, []int{0}, []int{1}, 0}, {64, make([]int, 128), []int{1}, 0},
		{2, []int{1}, nil, 1}, {5, []int{4}, nil, 1}, {5, []int{0, 0, 4}, nil, 3}, {5, []int{1, 2, 4, 3, 1}, []int{1, 3}, 1}, {5, []int{1, 0, 0, 0}, []int{1}, 1},
		{5, []int{4, 0, 4, 0, 4, 0}, []int{1, 0, 4}, 2}, {7, []int{0, 1, 1, 2, 3, 5, 1, 6}, []int{1, 6, 6}, 2}, {4, []int{1, 2, 3, 1, 2, 3}, []int{1, 2}, 1},
		{2, []int{1, 1, 0, 0, 0, 0}, []int{1}, 2},
	} {
		rule, length := isShortest(t, c.q, c.s[:min(len(c.s), 64)])
		if len(c.s) > 64 {
			rule, length, _ = reed.Massey(c.q, c.s)
		}
		hold.Same(t, fmt.Sprint("Massey ", c.q, c.s), length, c.length)
		if c.rule != nil {
			hold.List(t, fmt.Sprint("Massey ", c.q, c.s), rule, c.rule...)
		}
	}
}

func TestR3Errors(t *testing.T) {
	long := make([]int, api.MaxCoefs+1)
	for _, c := range []struct {
		q    int
		s    []int
		want api.Errno
	}{
		{6, nil, api.ErrField}, {1, []int{0}, api.ErrField}, {0, long, api.ErrField}, {65, []int{-1}, api.ErrField}, {math.MinInt, nil, api.ErrField},
		{2, long, api.ErrLimit}, {2, append(slices.Clone(long), 9), api.ErrLimit}, {2, []int{0, 2}, api.ErrValue}, {5, []int{-1, 0}, api.ErrValue},
		{64, []int{64}, api.ErrValue}, {64, []int{1, math.MaxInt}, api.ErrValue}, {64, []int{math.MinInt}, api.ErrValue},
	} {
		rule, length, e := reed.Massey(c.q, c.s)
		hold.Same(t, fmt.Sprint("Massey ", c.q, c.s), e, c.want)
		hold.List(t, "what is told beside an error", rule)
		hold.Same(t, "what is told beside an error", length, 0)
	}
}

func TestListsAreTheCallers(t *testing.T) {
	var handed hold.Handed
	xs, message, w, s := handed.List(0, 1, 2, 3, 4, 5), handed.List(1, 1), handed.List(1, 2, 0, -1, 5, 6), handed.List(0, 0, 1, 1, 0, 1, 1, 0)
	var out [][]int
	for range 2 {
		word, _ := reed.Encode(7, xs, message)
		out = append(out, word)
		for _, way := range ways {
			got, _, ok, _ := way(7, xs, 2, w)
			hold.Same(t, "it is told", ok, true)
			out = append(out, got)
		}
		rule, _, _ := reed.Massey(2, s)
		none, _, _ := reed.Massey(2, nil)
		out = append(out, rule, none)
		reed.Check(7, xs, 2)
		reed.Word(7, xs, 2, w)
	}
	handed.Apart(t, out...)
}
