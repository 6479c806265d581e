package golay

import (
	"iter"
	"math/bits"

	"syndrome/api"
	"syndrome/weights"
)

const mostSets = 50_000 // that Design goes through

// set: places below 64; place i is in it where its bit i is 1.
type set uint64

// of is the set of places in a list.
func of(places []int) set {
	var s set
	for _, place := range places {
		s |= 1 << place
	}
	return s
}

// notZero is the set of places at which a word is not 0.
func notZero(word []int) set {
	var s set
	for place, v := range word {
		if v != 0 {
			s |= 1 << place
		}
	}
	return s
}

// size is how many places are in it.
func (s set) size() int { return bits.OnesCount64(uint64(s)) }

// places are those in it, rising.
func (s set) places() []int {
	var out []int
	for ; s != 0; s &= s - 1 {
		out = append(out, bits.TrailingZeros64(uint64(s)))
	}
	return out
}

// liesIn is how many others have all its places.
func (s set) liesIn(others []set) int {
	many := 0
	for _, other := range others {
		if s&^other == 0 {
			many++
		}
	}
	return many
}

// sets goes through all sets of t of n places.
func sets(n, t int) iter.Seq[set] {
	return func(yield func(set) bool) { more(0, 0, n, t, yield) }
}

// more goes through a set with t more of the places from one on; false: it was stopped.
func more(s set, from, n, t int, yield func(set) bool) bool {
	if t == 0 {
		return yield(s)
	}
	for place := from; place <= n-t; place++ {
		if !more(s|1<<place, place+1, n, t-1, yield) {
			return false
		}
	}
	return true
}

// checkDesign says whether it can be gone through which sets of t of n places lie in blocks.
func checkDesign(n int, blocks [][]int, t int) api.Errno {
	if n < 1 || n > api.MaxLength || len(blocks) > api.MaxWords {
		return api.ErrLimit
	}
	for _, block := range blocks {
		for _, place := range block {
			if place < 0 || place >= n {
				return api.ErrPlace
			}
		}
	}
	if t < 0 || t > n {
		return api.ErrCount
	}
	return checkSets(n, t)
}

// checkSets says whether there are few enough sets of t of n places, and of fewer places than t.
func checkSets(n, t int) api.Errno {
	many := 1
	for i := range t {
		if many = many * (n - i) / (i + 1); many > mostSets { // no rest: that is how many sets of i + 1 there are
			return api.ErrLimit
		}
	}
	return api.OK
}

// together is the sum of numbers.
func together(list []int) int {
	sum := 0
	for _, v := range list {
		sum += v
	}
	return sum
}

// ball is how many words differ from one at r places at most.
func ball(q, n, r int) int {
	many := 0
	for k := range r + 1 {
		there, _ := weights.Krawtchouk(q, n, k, 0) // at 0 that is how many words there are of weight k
		many += there
	}
	return many
}
