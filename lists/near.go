package lists

import (
	"slices"

	"syndrome/api"
	"syndrome/field"
	"syndrome/reed"
)

// checkWhole says whether a word may have come, with nothing lost.
func checkWhole(q int, xs []int, k int, w []int) api.Errno {
	if e := reed.Word(q, xs, k, w); e != api.OK {
		return e
	}
	if slices.ContainsFunc(w, func(v int) bool { return v < 0 }) {
		return api.ErrValue
	}
	return api.OK
}

// messages is how many there are of k numbers, if they can be gone through; it looks at each step, for q^k itself may be no number of the machine.
func messages(q, k int) (int, api.Errno) {
	many := 1
	for range k {
		if many *= q; many > api.MaxWords {
			return 0, api.ErrLimit
		}
	}
	return many, api.OK
}

// digits are the k digits of a number to the base q, the highest first: so as the numbers rise, the lists are in order.
func digits(q, k, number int) []int {
	out := make([]int, k)
	for i := k - 1; i >= 0; i-- {
		out[i] = number % q
		number /= q
	}
	return out
}

// products are the powers of x and of y in each product that is taken, in order.
func products(k, t int) [][2]int {
	var out [][2]int
	for j := 0; j*(k-1) < t; j++ {
		for i := 0; i+j*(k-1) < t && len(out) < api.MaxLength; i++ {
			out = append(out, [2]int{i, j})
		}
	}
	return out
}

// valuesAt are what all products are at an x and a y.
func valuesAt(f *field.Field, all [][2]int, x, y int) []int {
	out := make([]int, len(all))
	for at, powers := range all {
		out[at] = f.Mul(f.Pow(x, powers[0]), f.Pow(y, powers[1]))
	}
	return out
}

// byPowers parts the coefficients of all products by their powers of y.
func byPowers(all [][2]int, sum []int) [][]int {
	var out [][]int
	for at, powers := range all {
		if powers[1] == len(out) {
			out = append(out, nil)
		}
		out[powers[1]] = append(out[powers[1]], sum[at])
	}
	return out
}
