package muller

import (
	"iter"
	"math/bits"

	"syndrome/api"
)

// monomial: a set of variables; variable i is in it where its bit i is 1.
type monomial int

// monomials goes through those of at most r of m variables, by how many they have, then as numbers.
func monomials(r, m int) iter.Seq[monomial] {
	return func(yield func(monomial) bool) {
		for many := range r + 1 {
			for s := range monomial(1 << m) {
				if bits.OnesCount(uint(s)) == many && !yield(s) {
					return
				}
			}
		}
	}
}

// addTo adds its word to one.
func (s monomial) addTo(word []int) {
	for x := range word {
		if monomial(x)&s == s {
			word[x] ^= 1
		}
	}
}

// byMajority says whether it is in a word: where the other variables stay as they are, the bits at all values of its own add up to its coefficient.
func (s monomial) byMajority(word []int) bool {
	var sums [1 << api.MaxLevels]int
	for x, bit := range word {
		sums[monomial(x)&^s] ^= bit
	}
	yes, no := 0, 0
	for x := range word {
		switch {
		case monomial(x)&s != 0: // one of its own variables isn't 0: that sum stands elsewhere
		case sums[x] == 1:
			yes++
		default:
			no++
		}
	}
	return yes > no
}
