// Package bit: words of bits, for the layers that are handed some.
package bit

import "syndrome/api"

// Lost stands in a word where a bit isn't known.
const Lost = -1

// All says whether all numbers of a list are bits.
func All(list []int) bool { return all(list, isBit) }

// Check says whether there are so many bits.
func Check(list []int, many int) api.Errno { return check(list, many, isBit) }

// CheckHeard says whether there are so many numbers, each a bit or Lost.
func CheckHeard(list []int, many int) api.Errno {
	return check(list, many, func(v int) bool { return v == Lost || isBit(v) })
}

func isBit(v int) bool { return v == 0 || v == 1 }

// all says whether each number of a list may stand there.
func all(list []int, may func(v int) bool) bool {
	for _, v := range list {
		if !may(v) {
			return false
		}
	}
	return true
}

// check says whether there are so many numbers, each of which may stand there.
func check(list []int, many int, may func(v int) bool) api.Errno {
	if len(list) != many {
		return api.ErrCount
	}
	if !all(list, may) {
		return api.ErrValue
	}
	return api.OK
}
