package sparse_test

import (
	"fmt"
	"math"
	"slices"
	"testing"

	"syndrome/api"
	"syndrome/hold"
	"syndrome/sparse"
)

// wrong: checks that may not be, and by what.
var wrong = []struct {
	n      int
	checks [][]int
	want   api.Errno
}{
	{0, nil, api.ErrLimit}, {-1, nil, api.ErrLimit}, {65, nil, api.ErrLimit}, {math.MinInt, nil, api.ErrLimit}, {math.MaxInt, nil, api.ErrLimit},
	{0, [][]int{{0}}, api.ErrLimit}, {65, [][]int{{99}}, api.ErrLimit}, {4, make([][]int, 65), api.ErrLimit}, {4, slices.Repeat([][]int{{9}}, 65), api.ErrLimit},
	{4, [][]int{{4}}, api.ErrPlace}, {4, [][]int{{-1}}, api.ErrPlace}, {4, [][]int{{0, 1}, {}, {2, 4}}, api.ErrPlace}, {4, [][]int{{math.MinInt}}, api.ErrPlace}, {4, [][]int{{3, math.MaxInt}}, api.ErrPlace},
	{4, [][]int{{1, 1}}, api.ErrForm}, {4, [][]int{{2, 1}}, api.ErrForm}, {4, [][]int{{0, 1}, {3, 0}}, api.ErrForm}, {4, [][]int{{0, 2, 1}}, api.ErrForm},
	{4, [][]int{{2, 1, 4}}, api.ErrForm}, {4, [][]int{{2, 1}, {4}}, api.ErrForm}, {4, [][]int{{2, 4, 1}}, api.ErrPlace}, {4, [][]int{{4}, {2, 1}}, api.ErrPlace}, {4, [][]int{{2, -1}}, api.ErrPlace},
	{64, [][]int{{63, 64}}, api.ErrPlace}, {64, [][]int{{63, 63}}, api.ErrForm}, {1, [][]int{{0, 1}}, api.ErrPlace}, {1, [][]int{{0, 0}}, api.ErrForm},
}

// anyChecks draws checks, of which each has a place in one of so many cases.
func anyChecks(d *hold.Draw, n, many, of int) [][]int {
	checks := make([][]int, many)
	for i := range checks {
		for place := range n {
			if d.Below(of) == 0 {
				checks[i] = append(checks[i], place)
			}
		}
	}
	return checks
}

// isOdd: do a check's bits add up to an odd number?
func isOdd(check, word []int) bool {
	all := 0
	for _, place := range check {
		all += word[place]
	}
	return all%2 != 0
}

func peeled(t *testing.T, n int, checks [][]int, w, want, rest []int) {
	t.Helper()
	what := fmt.Sprint("Peel ", n, checks, w)
	filled, left, e := sparse.Peel(n, checks, w)
	hold.Same(t, what, e, api.OK)
	hold.List(t, what, filled, want...)
	hold.List(t, what+": what is left", left, rest...)
}

func notPeeled(t *testing.T, n int, checks [][]int, w []int, want api.Errno) {
	t.Helper()
	filled, left, e := sparse.Peel(n, checks, w)
	hold.Same(t, fmt.Sprint("Peel ", n, checks, w), e, want)
	hold.List(t, "told beside an error", filled)
	hold.List(t, "told beside an error", left)
}

func stops(t *testing.T, n int, checks [][]int, set []int, want bool, e api.Errno) {
	t.Helper()
	what := fmt.Sprint("Stops ", n, checks, set)
	got, is := sparse.Stops(n, checks, set)
	hold.Same(t, what, is, e)
	hold.Same(t, what, got, want)
}

func flipped(t *testing.T, n int, checks [][]int, w []int, most int, want []int, ok bool, rounds int) {
	t.Helper()
	what := fmt.Sprint("Flip ", n, checks, w, most)
	out, even, many, e := sparse.Flip(n, checks, w, most)
	hold.Same(t, what, e, api.OK)
	hold.List(t, what, out, want...)
	hold.Same(t, what+": is it even", even, ok)
	hold.Same(t, what+": rounds", many, rounds)
}

func notFlipped(t *testing.T, n int, checks [][]int, w []int, most int, want api.Errno) {
	t.Helper()
	out, even, many, e := sparse.Flip(n, checks, w, most)
	hold.Same(t, fmt.Sprint("Flip ", n, checks, w, most), e, want)
	hold.List(t, "told beside an error", out)
	hold.Same(t, "told beside an error", even, false)
	hold.Same(t, "told beside an error", many, 0)
}

func TestS1Check(t *testing.T) {
	for _, c := range wrong {
		hold.Same(t, fmt.Sprint("Check ", c.n, c.checks), sparse.Check(c.n, c.checks), c.want)
	}
	for n := 1; n <= 64; n++ {
		hold.Same(t, "Check of none", sparse.Check(n, nil), api.OK)
		hold.Same(t, "Check of all places", sparse.Check(n, [][]int{hold.UpTo(n), {n - 1}, {0}, {}, nil}), api.OK)
		hold.Same(t, "Check of the most", sparse.Check(n, slices.Repeat([][]int{hold.UpTo(n)}, 64)), api.OK)
		hold.Same(t, "Check of one more", sparse.Check(n, slices.Repeat([][]int{hold.UpTo(n)}, 65)), api.ErrLimit)
		hold.Same(t, "Check of one more place", sparse.Check(n, [][]int{hold.UpTo(n + 1)}), api.ErrPlace)
	}
	d := hold.Draw(1)
	for range 200 {
		n := 1 + d.Below(64)
		hold.Same(t, "Check of drawn ones", sparse.Check(n, anyChecks(&d, n, d.Below(65), 3)), api.OK)
	}
}

func TestS1AllCallsCheck(t *testing.T) {
	for _, c := range wrong {
		for _, w := range [][]int{nil, {2}, {0, 1, 0, 1}} {
			notPeeled(t, c.n, c.checks, w, c.want)
			stops(t, c.n, c.checks, w, false, c.want)
			stops(t, c.n, c.checks, []int{-1, 99}, false, c.want)
			notFlipped(t, c.n, c.checks, w, 3, c.want)
			notFlipped(t, c.n, c.checks, w, -3, c.want)
		}
	}
}

// filledIn: what Peel should answer, place by place in each round.
func filledIn(checks [][]int, w []int) (word, left []int) {
	word = slices.Clone(w)
	for range w {
		was := slices.Clone(word)
		for place := range was {
			if was[place] != -1 {
				continue
			}
			for _, check := range checks {
				others, known := 0, slices.Contains(check, place)
				for _, other := range check {
					if other != place {
						others += was[other]
						known = known && was[other] != -1
					}
				}
				if known {
					word[place] = others % 2
					break
				}
			}
		}
	}
	for place, v := range word {
		if v == -1 {
			left = append(left, place)
		}
	}
	return word, left
}

func TestS2Peel(t *testing.T) {
	peeled(t, 4, [][]int{{0, 1}, {1, 2, 3}, {2, 3}}, []int{1, -1, -1, -1}, []int{1, 1, -1, -1}, []int{2, 3})
	peeled(t, 1, nil, []int{-1}, []int{-1}, []int{0})
	peeled(t, 1, [][]int{{}, nil}, []int{-1}, []int{-1}, []int{0})
	peeled(t, 1, [][]int{{}, {0}}, []int{-1}, []int{0}, nil)
	peeled(t, 1, [][]int{{0}}, []int{1}, []int{1}, nil)
	peeled(t, 3, [][]int{{0, 1}, {1, 2}}, []int{0, 1, 0}, []int{0, 1, 0}, nil)
	peeled(t, 3, [][]int{{0, 1, 2}}, []int{1, -1, 1}, []int{1, 0, 1}, nil)
	peeled(t, 3, [][]int{{0, 1, 2}}, []int{1, -1, 0}, []int{1, 1, 0}, nil)
}

// TestS2RoundsAndFirstChecks: of checks that don't hold together it shows which one was asked, and when.
func TestS2RoundsAndFirstChecks(t *testing.T) {
	peeled(t, 3, [][]int{{0, 1}, {1, 2}}, []int{0, -1, 1}, []int{0, 0, 1}, nil)
	peeled(t, 3, [][]int{{1, 2}, {0, 1}}, []int{0, -1, 1}, []int{0, 1, 1}, nil)
	peeled(t, 4, [][]int{{0, 1}, {1, 2}, {2, 3}}, []int{0, -1, -1, 1}, []int{0, 0, 1, 1}, nil)
	peeled(t, 4, [][]int{{1, 2}, {2, 3}, {0, 1}}, []int{0, -1, -1, 1}, []int{0, 0, 1, 1}, nil)
	peeled(t, 5, [][]int{{0, 1}, {1, 2}, {2, 3}, {3, 4}}, []int{1, -1, -1, -1, 0}, []int{1, 1, 1, 0, 0}, nil)
	peeled(t, 5, [][]int{{0, 1}, {2, 3}, {1, 2}, {3, 4}}, []int{1, -1, -1, -1, 0}, []int{1, 1, 0, 0, 0}, nil)
}

func TestS2OfDrawnWords(t *testing.T) {
	d := hold.Draw(2)
	some := 0
	for range 3000 {
		n := 1 + d.Below(12)
		checks, w := anyChecks(&d, n, d.Below(9), 2+d.Below(4)), d.List(3, n)
		for i := range w {
			w[i]--
		}
		want, left := filledIn(checks, w)
		peeled(t, n, checks, w, want, left)
		if len(left) > 0 && slices.Contains(w, -1) && !slices.Equal(w, want) {
			some++
		}
	}
	hold.Same(t, "some are filled in part", some > 200, true)
}

// TestS2GreatestStop: what is left is the greatest of all sets of lost places that stop it.
func TestS2GreatestStop(t *testing.T) {
	d := hold.Draw(3)
	for range 300 {
		n := 1 + d.Below(8)
		checks, w := anyChecks(&d, n, d.Below(7), 3), d.List(2, n)
		for i := range w {
			w[i] -= d.Below(2) * (w[i] + 1)
		}
		in := make([]int, n)
		for set := range hold.Each(2, n) {
			var places []int
			for place, is := range set {
				if is == 1 {
					places = append(places, place)
				}
			}
			kept, _ := sparse.Stops(n, checks, places)
			if !kept || slices.ContainsFunc(places, func(place int) bool { return w[place] != -1 }) {
				continue
			}
			for _, place := range places {
				in[place] = 1
			}
		}
		_, left, _ := sparse.Peel(n, checks, w)
		for place, is := range in {
			hold.Same(t, fmt.Sprint("left of ", n, checks, w, " at ", place), slices.Contains(left, place), is == 1)
		}
	}
}

// TestS2NothingWrong: of a word whose checks hold nothing is filled in otherwise than it was.
func TestS2NothingWrong(t *testing.T) {
	d := hold.Draw(4)
	for range 200 {
		n := 2 + d.Below(8)
		checks := anyChecks(&d, n, d.Below(5), 3)
		for word := range hold.Each(2, n) {
			if slices.ContainsFunc(checks, func(check []int) bool { return isOdd(check, word) }) {
				continue
			}
			w := slices.Clone(word)
			for _, place := range d.Different(n, d.Below(n+1)) {
				w[place] = -1
			}
			filled, left, _ := sparse.Peel(n, checks, w)
			for place, v := range filled {
				hold.Same(t, "lost and left", v == -1, slices.Contains(left, place))
				hold.Same(t, "as it was", v == -1 || v == word[place], true)
			}
		}
	}
}

// TestS2TheLongest: a chain that is filled in from one end, a place a round.
func TestS2TheLongest(t *testing.T) {
	checks, w := [][]int{}, append(slices.Repeat([]int{-1}, 63), 1)
	for place := range 63 {
		checks = append(checks, []int{place, place + 1})
	}
	peeled(t, 64, checks, w, slices.Repeat([]int{1}, 64), nil)
	peeled(t, 64, append(checks, []int{0}), w, append(slices.Repeat([]int{0}, 32), slices.Repeat([]int{1}, 32)...), nil) // both ends go on as fast
	peeled(t, 64, checks[1:], w, append([]int{-1}, slices.Repeat([]int{1}, 63)...), []int{0})
	peeled(t, 64, checks, slices.Repeat([]int{-1}, 64), slices.Repeat([]int{-1}, 64), hold.UpTo(64))
}

func TestS2Errors(t *testing.T) {
	checks := [][]int{{0, 1}, {1, 2}}
	for _, w := range [][]int{nil, {}, {0, 1}, {0, 1, 0, 1}, {2, 2}, {2, 2, 2, 2}, make([]int, 64)} {
		notPeeled(t, 3, checks, w, api.ErrCount)
	}
	for _, v := range []int{2, -2, 3, math.MinInt, math.MaxInt, 1 << 32} {
		notPeeled(t, 3, checks, []int{v, 0, 0}, api.ErrValue)
		notPeeled(t, 3, checks, []int{-1, 0, v}, api.ErrValue)
	}
}

func TestS3Stops(t *testing.T) {
	checks := [][]int{{0, 1}, {1, 2, 3}, {2, 3}, {}}
	for _, c := range []struct {
		set  []int
		want bool
	}{
		{nil, true}, {[]int{}, true}, {[]int{2, 3}, true}, {[]int{3, 2}, true}, {[]int{3, 2, 3, 2, 2}, true}, {[]int{0, 1, 2, 3}, true},
		{[]int{0}, false}, {[]int{0, 0}, false}, {[]int{2, 2}, false}, {[]int{0, 1}, false}, {[]int{1, 2, 3}, false}, {[]int{0, 2, 3}, false}, {[]int{0, 1, 3, 3}, false}, {[]int{4}, true}, {[]int{4, 4, 2, 3}, true},
	} {
		stops(t, 5, checks, c.set, c.want, api.OK)
	}
	stops(t, 1, nil, []int{0}, true, api.OK)
	stops(t, 64, [][]int{hold.UpTo(64)}, []int{63}, false, api.OK)
	stops(t, 64, [][]int{hold.UpTo(64)}, []int{63, 0}, true, api.OK)
	stops(t, 64, slices.Repeat([][]int{hold.UpTo(64)}, 64), slices.Repeat(hold.UpTo(64), 1000), true, api.OK)
}

func TestS3OfDrawnSets(t *testing.T) {
	d := hold.Draw(5)
	yes := 0
	for range 3000 {
		n := 1 + d.Below(10)
		checks, set := anyChecks(&d, n, d.Below(5), 3), d.List(n, d.Below(8))
		want := true
		for _, check := range checks {
			in := slices.DeleteFunc(slices.Clone(check), func(place int) bool { return !slices.Contains(set, place) })
			want = want && len(in) != 1
		}
		stops(t, n, checks, set, want, api.OK)
		if want && len(set) > 0 {
			yes++
		}
	}
	hold.Same(t, "some stop it, some don't", yes > 300 && yes < 2500, true)
}

func TestS3Errors(t *testing.T) {
	for _, v := range []int{3, -1, 64, math.MinInt, math.MaxInt, 1 << 32} {
		stops(t, 3, nil, []int{v}, false, api.ErrPlace)
		stops(t, 3, [][]int{{0, 1}}, []int{0, 1, v}, false, api.ErrPlace)
		stops(t, 3, [][]int{{0, 1}}, []int{v, 0}, false, api.ErrPlace)
	}
}

// turnedOn: what Flip should answer, place by place.
func turnedOn(checks [][]int, w []int, most int) (word []int, ok bool, rounds int) {
	word = slices.Clone(w)
	for {
		in := make([]int, len(w))
		for place := range in {
			for _, check := range checks {
				if slices.Contains(check, place) && isOdd(check, word) {
					in[place]++
				}
			}
		}
		ok = slices.Max(in) == 0
		if ok || rounds == most {
			return word, ok, rounds
		}
		for place := range in {
			if in[place] == slices.Max(in) {
				word[place] = 1 - word[place]
			}
		}
		rounds++
	}
}

func TestS4Flip(t *testing.T) {
	flipped(t, 3, [][]int{{0, 1}, {1, 2}}, []int{0, 1, 0}, 9, []int{0, 0, 0}, true, 1)
	flipped(t, 3, [][]int{{0, 1}, {1, 2}}, []int{0, 1, 0}, 1, []int{0, 0, 0}, true, 1)
	flipped(t, 3, [][]int{{0, 1}, {1, 2}}, []int{0, 1, 0}, 0, []int{0, 1, 0}, false, 0)
	flipped(t, 3, [][]int{{0, 1}, {1, 2}}, []int{1, 1, 1}, 0, []int{1, 1, 1}, true, 0)
	flipped(t, 3, [][]int{{0, 1}, {1, 2}}, []int{1, 1, 1}, 100, []int{1, 1, 1}, true, 0)
	flipped(t, 2, nil, []int{1, 0}, 5, []int{1, 0}, true, 0)
	flipped(t, 2, [][]int{{}, nil}, []int{1, 0}, 5, []int{1, 0}, true, 0)
	flipped(t, 1, [][]int{{0}}, []int{1}, 100, []int{0}, true, 1)
	flipped(t, 4, [][]int{{0, 1, 2}}, []int{1, 1, 1, 1}, 3, []int{0, 0, 0, 1}, true, 1) // all that stand in it, at once
}

// TestS4WithoutEnd: two bits that are turned each time.
func TestS4WithoutEnd(t *testing.T) {
	for most := range 101 {
		want := []int{1, 0}
		if most%2 == 1 {
			want = []int{0, 1}
		}
		flipped(t, 2, [][]int{{0, 1}}, []int{1, 0}, most, want, false, most)
	}
	flipped(t, 64, slices.Repeat([][]int{hold.UpTo(64)}, 64), append(make([]int, 63), 1), 99, append(slices.Repeat([]int{1}, 63), 0), false, 99)
}

func TestS4OfDrawnWords(t *testing.T) {
	d := hold.Draw(6)
	var often [2]int
	for range 3000 {
		n, most := 1+d.Below(12), d.Below(9)
		checks, w := anyChecks(&d, n, d.Below(9), 2+d.Below(3)), d.List(2, n)
		want, ok, rounds := turnedOn(checks, w, most)
		flipped(t, n, checks, w, most, want, ok, rounds)
		if ok && rounds > 1 {
			often[0]++
		} else if !ok && rounds > 0 {
			often[1]++
		}
	}
	hold.Same(t, "some end, some don't", often[0] > 100 && often[1] > 100, true)
}

func TestS4Errors(t *testing.T) {
	checks := [][]int{{0, 1}, {1, 2}}
	for _, w := range [][]int{nil, {}, {0, 1}, {0, 1, 0, 1}, {2, 2}, {2, 2, 2, 2}} {
		notFlipped(t, 3, checks, w, 3, api.ErrCount)
	}
	for _, v := range []int{2, -1, -2, math.MinInt, math.MaxInt, 1 << 32} {
		notFlipped(t, 3, checks, []int{v, 0, 0}, 3, api.ErrValue)
		notFlipped(t, 3, checks, []int{0, 0, v}, 101, api.ErrValue)
	}
	for _, most := range []int{-1, 101, math.MinInt, math.MaxInt, 1 << 32} {
		notFlipped(t, 3, checks, []int{0, 1, 0}, most, api.ErrCount)
		notFlipped(t, 3, checks, []int{0, 0, 0}, most, api.ErrCount)
	}
}

func TestListsAreTheCallers(t *testing.T) {
	var handed hold.Handed
	checks := [][]int{handed.List(0, 1), handed.List(1, 2, 3), handed.List(2, 3), handed.List()}
	w, bits, set := handed.List(1, -1, -1, -1), handed.List(1, 0, 1, 1), handed.List(2, 3, 2)
	var out [][]int
	for range 2 {
		filled, left, _ := sparse.Peel(4, checks, w)
		whole, none, _ := sparse.Peel(4, checks, bits)
		turned, _, rounds, _ := sparse.Flip(4, checks, bits, 7)
		same, _, _, _ := sparse.Flip(4, checks, bits, 0)
		sparse.Stops(4, checks, set)
		sparse.Check(4, checks)
		hold.Same(t, "lists of their length", len(filled)+len(left)+len(whole)+len(none)+len(turned)+len(same), 4+2+4+0+4+4)
		hold.Same(t, "some are turned", rounds > 0, true)
		out = append(out, filled, left, whole, none, turned, same)
	}
	hold.Lists(t, "checks", checks, []int{0, 1}, []int{1, 2, 3}, []int{2, 3}, nil)
	handed.Apart(t, out...)
}
