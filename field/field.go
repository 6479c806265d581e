// Package field: finite fields: see the document's chapter.
package field

import "syndrome/api"

// none is told where there is no element to tell.
const none = -1

// Field: a finite field.
type Field struct {
	made *table // nothing writes into it once it is made
}

// New is the field of so many elements.
func New(q int) (*Field, api.Errno) {
	made := build(q)
	if made == nil {
		return nil, api.ErrField
	}
	return &Field{made: made}, api.OK
}

// Size is how many elements there are.
func (f *Field) Size() int { return f.made.size }

// Char is its characteristic.
func (f *Field) Char() int { return f.made.char }

// Degree: its size is the characteristic to the power of it.
func (f *Field) Degree() int { return f.made.degree }

// Poly is its modulus, the lowest coefficient first.
func (f *Field) Poly() []int { return append(f.made.digits(f.made.low), 1) }

// Gen is the element whose powers all others but 0 are.
func (f *Field) Gen() int { return f.made.gen }

// Has says whether a number is an element.
func (f *Field) Has(a int) bool { return a >= 0 && a < f.made.size }

// Add is the sum (-1: one is no element).
func (f *Field) Add(a, b int) int {
	if !f.Has(a) || !f.Has(b) {
		return none
	}
	return f.made.sum(a, b)
}

// Neg is the opposite.
func (f *Field) Neg(a int) int {
	if !f.Has(a) {
		return none
	}
	return f.made.opposite(a)
}

// Sub is the first less the second.
func (f *Field) Sub(a, b int) int { return f.Add(a, f.Neg(b)) }

// Mul is the product.
func (f *Field) Mul(a, b int) int {
	if !f.Has(a) || !f.Has(b) {
		return none
	}
	if a == 0 || b == 0 {
		return 0
	}
	return f.made.power(f.made.logs[a] + f.made.logs[b])
}

// Inv is what an element times which is 1 (-1: of 0, too).
func (f *Field) Inv(a int) int { return f.Pow(a, -1) }

// Pow is an element to a power (-1: 0 to one below 0, too).
func (f *Field) Pow(a, k int) int {
	switch {
	case !f.Has(a):
		return none
	case k == 0:
		return 1
	case a == 0 && k < 0:
		return none
	case a == 0:
		return 0
	}
	// k is cut down first: its product with the logarithm might not be a number of the machine.
	return f.made.power(f.made.logs[a] * remainder(k, f.made.size-1))
}

// Log: which power of the generator an element is (-1: of 0, too).
func (f *Field) Log(a int) int {
	if !f.Has(a) {
		return none
	}
	return f.made.logs[a]
}

// Frob is an element to the power of the characteristic, again and again.
func (f *Field) Frob(a, times int) int {
	if !f.Has(a) {
		return none
	}
	for range remainder(times, f.made.degree) {
		a = f.Pow(a, f.made.char)
	}
	return a
}

// Trace is the sum of all that comes of an element so.
func (f *Field) Trace(a int) int {
	sum := 0
	for times := range f.made.degree {
		sum = f.Add(sum, f.Frob(a, times))
	}
	return sum
}

// Norm is their product.
func (f *Field) Norm(a int) int {
	product := 1
	for times := range f.made.degree {
		product = f.Mul(product, f.Frob(a, times))
	}
	return product
}

// Within are the elements of the field of so many within this one, rising; none: it is not there.
func (f *Field) Within(size int) []int {
	small, e := New(size)
	if e != api.OK || !f.holds(small) {
		return nil
	}
	var out []int
	for a := range f.made.size {
		if f.Pow(a, size) == a {
			out = append(out, a)
		}
	}
	return out
}

// Embed: what each element of a field becomes in a greater one.
func Embed(q, greater int) ([]int, api.Errno) {
	small, e := New(q)
	if e != api.OK {
		return nil, e
	}
	great, e := New(greater)
	if e != api.OK {
		return nil, e
	}
	if !great.holds(small) {
		return nil, api.ErrForm
	}
	root := great.rootFor(small)
	out := make([]int, q)
	for a := range out {
		out[a] = great.at(small.made.digits(a), root)
	}
	return out, api.OK
}

// holds says whether another field can stand within this one.
func (f *Field) holds(small *Field) bool {
	return small.made.char == f.made.char && f.made.degree%small.made.degree == 0
}

// rootFor is what the x of a field within this one becomes here.
func (f *Field) rootFor(small *Field) int {
	step := (f.made.size - 1) / (small.made.size - 1)
	modulus := small.Poly()
	for k := 1; k < small.made.size; k++ {
		if root := f.made.power(k * step); f.at(modulus, root) == 0 {
			return root
		}
	}
	return 0 // a prime field has no x to become anything
}

// at is the value of a polynomial at an element.
func (f *Field) at(coefs []int, x int) int {
	value := 0
	for i := len(coefs) - 1; i >= 0; i-- {
		value = f.Add(f.Mul(value, x), coefs[i])
	}
	return value
}
