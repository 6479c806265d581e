package weights

import (
	"slices"

	"syndrome/api"
)

// checkDistance says whether there is a bound for words of such a length and distance.
func checkDistance(q, n, d int) api.Errno {
	if e := Check(q, n); e != api.OK {
		return e
	}
	if d < 1 || d > n {
		return api.ErrPlace
	}
	return api.OK
}

// power is a number to a power; of what is above mostWords, only that it is above that.
func power(base, times int) int {
	out := 1
	for i := 0; i < times && out <= mostWords; i++ {
		out *= base
	}
	return out
}

// over is how many sets of k there are of n.
func over(n, k int) int {
	out := 1
	for i := range k {
		out = out * (n - i) / (i + 1) // no rest: that is how many sets of i + 1 there are
	}
	return out
}

// krawtchouk is K(k, x), of numbers that may be.
func krawtchouk(q, n, k, x int) int {
	sum, sign := 0, 1
	for j := range k + 1 {
		sum += sign * power(q-1, k-j) * over(x, j) * over(n-x, k-j)
		sign = -sign
	}
	return sum
}

// ball is how many words differ from one at so many places at most.
func ball(q, n, radius int) int {
	many := 0
	for i := range radius + 1 {
		many += power(q-1, i) * over(n, i)
	}
	return many
}

// together is the sum of numbers that may be how many words there are of each weight.
func together(a []int, most int) (int, api.Errno) {
	if outside(a, most) {
		return 0, api.ErrValue // ahead of the sum, which could be too great for a number
	}
	sum := times(a, func(int) int { return 1 })
	switch {
	case sum > most:
		return 0, api.ErrValue
	case sum == 0:
		return 0, api.ErrZero
	}
	return sum, api.OK
}

// outside says whether a number is below 0, or above the most.
func outside(list []int, most int) bool {
	return slices.ContainsFunc(list, func(v int) bool { return v < 0 || v > most })
}

// times is the sum of numbers, each times what is told of its place.
func times(list []int, told func(place int) int) int {
	sum := 0
	for place, v := range list {
		sum += v * told(place)
	}
	return sum
}

// found looks for a number, from one to another.
func found(from, to int, is func(x int) bool) bool {
	for x := from; x <= to; x++ {
		if is(x) {
			return true
		}
	}
	return false
}

// roundUp is a quotient of numbers above 0, the next whole number where there is a rest.
func roundUp(a, b int) int { return (a + b - 1) / b }
