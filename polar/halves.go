package polar

import (
	"slices"

	"syndrome/api"
	"syndrome/bit"
)

// checkLevels says whether there are words of 2 to the m numbers.
func checkLevels(m int) api.Errno {
	if m < 0 || m > api.MaxLevels {
		return api.ErrLimit
	}
	return api.OK
}

// transform is that of a word, in memory of its own.
func transform(word []int) []int {
	if len(word) == 1 {
		return slices.Clone(word)
	}
	half := len(word) / 2
	return joined(transform(word[:half]), transform(word[half:]))
}

// joined is what is sent of two halves: their sum, then the second.
func joined(first, second []int) []int {
	return append(sums(first, second), second...)
}

// sums are those of two parts, place by place: lost, where one of both is.
func sums(first, second []int) []int {
	out := make([]int, len(first))
	for place := range len(first) {
		out[place] = sum(first[place], second[place])
	}
	return out
}

// sum is that of two bits, modulo 2; lost, if one of them is.
func sum(one, other int) int {
	if one == bit.Lost || other == bit.Lost {
		return bit.Lost
	}
	return one ^ other
}

// halved are the chances of a further level, by those of the one ahead, which are of so many ways.
func halved(chances []int, ways int) []int {
	var out []int
	for _, v := range chances {
		out = append(out, 2*v*ways-v*v, v*v)
	}
	return out
}

// read tells what was sent of a part. Each of its numbers, when all ahead is known, is made a bit by next; false: one of them can't be.
func read(part []int, next func(number int) (int, bool)) (sent []int, ok bool) {
	if len(part) == 1 {
		only, ok := next(part[0])
		return []int{only}, ok
	}
	one, other := part[:len(part)/2], part[len(part)/2:]
	first, ok := read(sums(one, other), next)
	if !ok {
		return nil, false
	}
	both, ok := met(sums(one, first), other)
	if !ok {
		return nil, false
	}
	second, ok := read(both, next)
	if !ok {
		return nil, false
	}
	return joined(first, second), true
}

// met is what two parts tell that should be alike: each number by the first of them, or, where it is lost there, by the second; false: two differ.
// (What was sent of a part is the part's own number wherever that isn't lost, so read never brings two that differ: it is asked as the document has it.)
func met(one, other []int) ([]int, bool) {
	out := slices.Clone(one)
	for place := range len(one) {
		switch {
		case one[place] == bit.Lost:
			out[place] = other[place]
		case other[place] != bit.Lost && other[place] != one[place]:
			return nil, false
		}
	}
	return out, true
}
