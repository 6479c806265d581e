package sparse

import (
	"slices"

	"syndrome/bit"
)

// those are the places of a check at which something holds.
func those(check []int, holds func(place int) bool) []int {
	var out []int
	for _, place := range check {
		if holds(place) {
			out = append(out, place)
		}
	}
	return out
}

// sum is that of a check's bits, modulo 2; what is lost counts nothing.
func sum(check, word []int) int {
	return len(those(check, func(place int) bool { return word[place] == 1 })) % 2
}

// fill is what one round of peeling makes of a word. All checks are asked of the word as it was: what one of them fills in helps no other one in the same round.
func fill(checks [][]int, word []int) []int {
	out := slices.Clone(word)
	lost := func(place int) bool { return word[place] == bit.Lost }
	for _, check := range checks {
		alone := those(check, lost)
		if len(alone) == 1 && out[alone[0]] == bit.Lost { // else an earlier check has filled it in
			out[alone[0]] = sum(check, word)
		}
	}
	return out
}

// oddOnes are the checks that are odd.
func oddOnes(checks [][]int, word []int) [][]int {
	var out [][]int
	for _, check := range checks {
		if sum(check, word) == 1 {
			out = append(out, check)
		}
	}
	return out
}

// turned is a word with all bits turned that stand in the most of some checks, which are not empty.
func turned(word []int, checks [][]int) []int {
	often := make([]int, len(word))
	for _, check := range checks {
		for _, place := range check {
			often[place]++
		}
	}
	out, most := slices.Clone(word), slices.Max(often)
	for place := range len(word) {
		if often[place] == most {
			out[place] ^= 1
		}
	}
	return out
}
