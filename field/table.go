package field

import "syndrome/api"

// table: what a field's calls look up.
type table struct {
	size, char, degree int
	low                int // the modulus, without its highest power
	gen                int
	powers             [api.MaxQ]int // of gen, from 1 on
	logs               [api.MaxQ]int
}

// build makes the table of a size; nil, if there is no such field.
func build(q int) *table {
	p, m := primePower(q)
	if m == 0 {
		return nil
	}
	t := &table{size: q, char: p, degree: m}
	if m == 1 {
		t.layByNumber()
	} else {
		t.layByModulus()
	}
	return t
}

// primePower tells the prime p and the m of q = p^m; m is 0, if there are none, or q is too great for a field.
func primePower(q int) (p, m int) {
	if q < 2 || q > api.MaxQ {
		return 0, 0
	}
	p = 2
	for q%p != 0 {
		p++
	}
	for q%p == 0 {
		q /= p
		m++
	}
	if q != 1 {
		return 0, 0
	}
	return p, m
}

// sum adds digit by digit, without carrying.
func (t *table) sum(a, b int) int {
	if t.char == 2 {
		return a ^ b // the same, and much sooner
	}
	sum := 0
	for unit := 1; unit < t.size; unit *= t.char {
		sum += (a/unit + b/unit) % t.char * unit
	}
	return sum
}

// opposite is what makes an element 0.
func (t *table) opposite(a int) int {
	if t.char == 2 {
		return a
	}
	out := 0
	for unit := 1; unit < t.size; unit *= t.char {
		out += (t.char - a/unit%t.char) % t.char * unit
	}
	return out
}

// layByNumber looks for the generator of a prime field, and lays its powers.
func (t *table) layByNumber() {
	for g := 1; g < t.size; g++ {
		if t.layPowers(func(a int) int { return a * g % t.char }) {
			t.gen = g
			return
		}
	}
}

// layByModulus looks for the modulus of a field that is no prime one, and lays the powers of x.
func (t *table) layByModulus() {
	t.gen = t.char
	for low := range t.size {
		if t.layPowers(func(a int) int { return t.timesX(a, low) }) {
			t.low = low
			return
		}
	}
}

// layPowers lays 1, and what step makes of it again and again; false, if these are not all elements but 0.
func (t *table) layPowers(step func(a int) int) bool {
	for a := range t.logs {
		t.logs[a] = none
	}
	a := 1
	for k := range t.size - 1 {
		if a == 0 || t.logs[a] != none {
			return false
		}
		t.powers[k], t.logs[a] = a, k
		a = step(a)
	}
	return true
}

// timesX is an element times x, by a modulus whose lower part is low: as often as the highest power comes up, low is taken away for it.
func (t *table) timesX(a, low int) int {
	top, rest := a*t.char/t.size, a*t.char%t.size
	for range top {
		rest = t.sum(rest, t.opposite(low))
	}
	return rest
}

// power is the generator to any power.
func (t *table) power(k int) int { return t.powers[remainder(k, t.size-1)] }

// digits are a number's digits to the base of the characteristic, the lowest first, as many as the degree.
func (t *table) digits(a int) []int {
	out := make([]int, t.degree)
	for i := range out {
		out[i] = a % t.char
		a /= t.char
	}
	return out
}

// remainder is what k leaves by n, from 0 on also where k is below 0.
func remainder(k, n int) int { return (k%n + n) % n }
