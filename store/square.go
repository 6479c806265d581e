package store

import "syndrome/poly"

// places goes through the places of the square at which a file's numbers stand, in their order.
func (p *Plan) places(yield func(i, j int) bool) {
	for i := range p.k {
		for j := i; j < p.k; j++ {
			if !yield(i, j) {
				return
			}
		}
	}
	for i := range p.k {
		for j := p.k; j < p.d; j++ {
			if !yield(i, j) {
				return
			}
		}
	}
}

// noughts is a square of nothing but these.
func (p *Plan) noughts() [][]int {
	out := make([][]int, p.d)
	for i := range out {
		out[i] = make([]int, p.d)
	}
	return out
}

// square is that of a file.
func (p *Plan) square(file []int) [][]int {
	out, at := p.noughts(), 0
	for i, j := range p.places {
		out[i][j], out[j][i] = file[at], file[at]
		at++
	}
	return out
}

// file is the one of a square.
func (p *Plan) file(square [][]int) []int {
	out := make([]int, 0, p.Size())
	for i, j := range p.places {
		out = append(out, square[i][j])
	}
	return out
}

// found is the one square, if it may differ from itself turned over where both are below k, by which k nodes would have these numbers.
// A node's number in a column is the value, at the node, of the polynomial with that column's numbers as its coefficients. All but k of these are known: in the last columns they are 0, in the first ones they stand turned over in the last. So the columns are found from the last one on.
func (p *Plan) found(nodes []int, have [][]int) [][]int {
	out := p.noughts() // by its columns
	for j := p.d - 1; j >= 0; j-- {
		rest := make([]int, len(nodes))
		for i, node := range nodes {
			rest[i] = p.f.Sub(have[i][j], p.value(out[j], node))
		}
		for i, v := range p.through(nodes, rest) {
			out[j][i] = v
			if j >= p.k {
				out[i][j] = v
			}
		}
	}
	return out
}

// sameTurned: is a square the same turned over?
func sameTurned(square [][]int) bool {
	for i, row := range square {
		for j, v := range row[:i] {
			if v != square[j][i] {
				return false
			}
		}
	}
	return true
}

// value is that of the polynomial with these coefficients at a node.
func (p *Plan) value(a []int, node int) int {
	out := 0
	for i := len(a) - 1; i >= 0; i-- {
		out = p.f.Add(p.f.Mul(out, node), a[i])
	}
	return out
}

// through are the coefficients, as many as nodes, of the polynomial with these values there. It is always found: the nodes are different elements, and few.
func (p *Plan) through(nodes, values []int) []int {
	out := make([]int, len(nodes))
	found, _ := poly.Through(p.f.Size(), nodes, values)
	copy(out, found)
	return out
}
