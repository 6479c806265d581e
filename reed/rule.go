package reed

import "syndrome/field"

// shortest is the rule that Berlekamp and Massey find: where one misses a number, as much of an older one that missed, too, is taken away as takes the miss away.
func shortest(f *field.Field, s []int) (rule []int, length int) {
	rule = []int{1}
	older, olderMiss := []int{1}, 1
	for i := range s {
		older = append([]int{0}, older...) // its miss is one number further back now
		miss := missed(f, rule, s[:i+1])
		if miss == 0 {
			continue
		}
		better := less(f, rule, f.Mul(miss, f.Inv(olderMiss)), older)
		if 2*length <= i {
			length = i + 1 - length
			older, olderMiss = rule, miss
		}
		rule = better
	}
	return trim(rule), length
}

// missed is what a rule makes of the last number of a list and those ahead: 0, if it holds there.
func missed(f *field.Field, rule, s []int) int {
	sum := 0
	for j, c := range rule {
		sum = f.Add(sum, f.Mul(c, s[len(s)-1-j]))
	}
	return sum
}

// less is a polynomial without another one so many times.
func less(f *field.Field, a []int, times int, b []int) []int {
	out := make([]int, max(len(a), len(b)))
	copy(out, a)
	for i, v := range b {
		out[i] = f.Sub(out[i], f.Mul(times, v))
	}
	return out
}

// trim leaves the noughts at the end out.
func trim(a []int) []int {
	for len(a) > 0 && a[len(a)-1] == 0 {
		a = a[:len(a)-1]
	}
	return a
}
