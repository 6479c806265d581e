package gap

import (
	"slices"

	"syndrome/api"
)

// longest: how many bits a word may have: one that got a bit has one more than those that are sent.
const longest = api.MaxGap + 1

// checkSum says whether there are words of n bits, and whether a may be left of a sum of their places.
func checkSum(n, a int) api.Errno {
	if n < 1 || n > api.MaxGap {
		return api.ErrLimit
	}
	if a < 0 || a > n {
		return api.ErrPlace
	}
	return api.OK
}

// bits are the n lowest bits of a number, the highest first: so words are in order as their numbers are.
func bits(number, n int) []int {
	out := make([]int, n)
	for i := range out {
		out[i] = number >> (n - 1 - i) & 1
	}
	return out
}

// comesTo says whether a is left of the sum of the places of a word's ones.
func comesTo(word []int, a int) bool {
	sum := 0
	for i, b := range word {
		sum += (i + 1) * b
	}
	return sum%(len(word)+1) == a
}

// sent are the words of n bits of which a word may have come.
func sent(n int, w []int) [][]int {
	switch len(w) {
	case n - 1:
		return longer(w)
	case n:
		return [][]int{slices.Clone(w)}
	case n + 1:
		return shorter(w)
	}
	return nil
}

// longer are all words that become a word by losing one bit; some of them more than once.
func longer(w []int) [][]int {
	var out [][]int
	for i := range len(w) + 1 {
		for b := range 2 {
			out = append(out, slices.Concat(w[:i], []int{b}, w[i:]))
		}
	}
	return out
}

// shorter are all words that a word becomes by losing one bit, each once.
func shorter(w []int) [][]int {
	var out [][]int
	for i, b := range w {
		// Of bits that are alike and in a row it's all the same which one is lost.
		if i == 0 || w[i-1] != b {
			out = append(out, slices.Concat(w[:i], w[i+1:]))
		}
	}
	return out
}

// between is how many bits must be lost and got for one word to become another.
func between(a, b []int) int {
	var steps [longest + 1][longest + 1]int // from the first i bits of the one to the first j of the other
	for i := range len(a) + 1 {
		for j := range len(b) + 1 {
			switch {
			case i == 0 || j == 0:
				steps[i][j] = i + j
			case a[i-1] == b[j-1]:
				steps[i][j] = steps[i-1][j-1]
			default:
				steps[i][j] = 1 + min(steps[i-1][j], steps[i][j-1])
			}
		}
	}
	return steps[len(a)][len(b)]
}
