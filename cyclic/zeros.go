package cyclic

import (
	"maps"
	"slices"

	"syndrome/api"
	"syndrome/field"
)

// check says whether words of such a length can be turned so that all roots are different.
func check(q, n int) api.Errno {
	f, e := field.New(q)
	switch {
	case e != api.OK:
		return e
	case n < 1 || n > api.MaxLength:
		return api.ErrLimit
	case n%f.Char() == 0:
		return api.ErrForm
	}
	return api.OK
}

// checkZeros says that, and whether there are such zeros.
func checkZeros(q, n int, zeros []int) api.Errno {
	switch e := check(q, n); {
	case e != api.OK:
		return e
	case len(zeros) > api.MaxLength:
		return api.ErrLimit
	case slices.ContainsFunc(zeros, func(k int) bool { return k < 0 || k >= n }):
		return api.ErrPlace
	}
	return api.OK
}

// together are all numbers that stand in a list with one of these: what comes of them times q, modulo n, until one was seen.
func together(q, n int, zeros []int) map[int]int {
	seen := map[int]int{}
	for _, k := range zeros {
		for seen[k] == 0 {
			seen[k]++
			k = k * q % n
		}
	}
	return seen
}

// rising are the numbers that were seen, in order.
func rising(seen map[int]int) []int { return slices.Sorted(maps.Keys(seen)) }

// withRoot is the least field, of q or over it, with an element whose first power that is 1 is the n-th.
func withRoot(q, n int) (*field.Field, api.Errno) {
	for size := q; size <= api.MaxQ; size *= q {
		if (size-1)%n == 0 {
			return field.New(size)
		}
	}
	return nil, api.ErrLimit
}

// toldOver is a polynomial over a greater field, told over the one of q within it.
func toldOver(q, greater int, a []int) ([]int, api.Errno) {
	there, e := field.Embed(q, greater)
	if e != api.OK {
		return nil, e
	}
	out := make([]int, len(a))
	for i, v := range a {
		out[i] = slices.Index(there, v)
	}
	return out, api.OK
}

// zeroAt is the code of the generator that is 0 at these.
func zeroAt(q, n int, zeros []int) (api.Code, api.Errno) {
	g, e := Generator(q, n, zeros)
	if e != api.OK {
		return api.Code{}, e
	}
	return Of(q, n, g)
}

// inARow is how many numbers of a kind there are at the most, modulo n, each by one step behind the last.
func inARow(n, step int, is func(k int) bool) int {
	most := 0
	for from := range n {
		many := 0
		for many < n && is((from+many*step)%n) {
			many++
		}
		most = max(most, many)
	}
	return most
}

// commonDivisor is the greatest of two numbers above 0.
func commonDivisor(a, b int) int {
	for b > 0 {
		a, b = b, a%b
	}
	return a
}

// prime says whether a number from 2 on is one.
func prime(n int) bool {
	for d := 2; d < n; d++ {
		if n%d == 0 {
			return false
		}
	}
	return true
}
