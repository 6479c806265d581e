package trellis

import (
	"math/bits"

	"syndrome/api"
)

// memory is how many bits ahead of the newest some rule looks at, at most.
func memory(rules []int) int {
	all := 0
	for _, rule := range rules {
		all |= rule
	}
	return bits.Len(uint(all)) - 1
}

// sign is the sum of the bits that a rule looks at; of those that were seen the newest is the lowest.
func sign(rule, seen int) int { return bits.OnesCount(uint(rule&seen)) & 1 }

// turned is how many of the signs of one step are other than those that come of what was seen.
func turned(rules, signs []int, at, seen int) int {
	many := 0
	for i, rule := range rules {
		if sign(rule, seen) != signs[at*len(rules)+i] {
			many++
		}
	}
	return many
}

// through goes all ways at once, bit by bit of a message and then by the noughts behind it. Ways stand by their states, the bits that are remembered: where two come to one state, what follows is the same for both, so meet makes one of them. In what order they meet must make no difference.
func through[W any](remembered, many int, first W, step func(at, seen int, w W) W, meet func(one, other W) W) W {
	ways := map[int]W{0: first}
	for at := range many + remembered {
		next := map[int]W{}
		for state, w := range ways {
			for bit := range choices(at, many) {
				seen := state<<1 | bit
				now, to := step(at, seen, w), seen&(1<<remembered-1)
				if there, ok := next[to]; ok {
					now = meet(there, now)
				}
				next[to] = now
			}
		}
		ways = next
	}
	return ways[0] // behind the noughts nothing else is remembered
}

// choices is how many bits may come: behind the message only 0.
func choices(at, many int) int {
	if at < many {
		return 2
	}
	return 1
}

// way: a message so far, the first bit the highest, and at how many places its signs differ from those given.
type way struct{ apart, message int }

// better is the one that differs less, or else comes first in order: as both have as many bits, that is the lower number.
func (w way) better(other way) way {
	if other.apart < w.apart || other.apart == w.apart && other.message < w.message {
		return other
	}
	return w
}

// bits are those of its message, of which there are so many.
func (w way) bits(many int) []int {
	out := make([]int, many)
	for i := range out {
		out[i] = w.message >> (many - 1 - i) & 1
	}
	return out
}

// share: how much messages count in all, and of each bit those in which it is 1. Different messages have different signs, so that is at most what all lists of signs count together, 4^24.
type share struct {
	all  int
	ones [api.MaxBits]int
}

// times is the share of which all counts so many times as much.
func (s share) times(by int) share {
	s.all *= by
	for i := range s.ones {
		s.ones[i] *= by
	}
	return s
}

// plus is what both count together.
func (s share) plus(other share) share {
	s.all += other.all
	for i, one := range other.ones {
		s.ones[i] += one
	}
	return s
}

// power is a number times itself, so often; 1 for not at all.
func power(a, often int) int {
	out := 1
	for range often {
		out *= a
	}
	return out
}
