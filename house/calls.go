package house

import (
	"syndrome/api"
	"syndrome/digits"
	"syndrome/field"
	"syndrome/gap"
	"syndrome/polar"
	"syndrome/reed"
	"syndrome/weights"
)

func (d *desk) field(numbers []int, _ []string) api.Errno {
	f, e := field.New(numbers[0])
	if e != api.OK {
		return e
	}
	d.tell(append([]int{f.Char(), f.Degree(), f.Gen()}, f.Poly()...)...)
	return api.OK
}

func (d *desk) bounds(numbers []int, _ []string) api.Errno {
	var out []int
	for _, bound := range []func(q, n, d int) (int, api.Errno){weights.Hamming, weights.Singleton, weights.Plotkin, weights.Varshamov} {
		most, e := bound(numbers[0], numbers[1], numbers[2])
		if e != api.OK {
			return e
		}
		out = append(out, most)
	}
	d.tell(out...)
	return api.OK
}

func (d *desk) reed(numbers []int, words []string) api.Errno {
	heard, e := readEach(words, readHeard)
	if e != api.OK {
		return e
	}
	places := make([]int, len(heard))
	for i := range places {
		places[i] = i
	}
	message, errors, ok, e := reed.Solve(numbers[0], places, numbers[1], heard)
	switch {
	case e != api.OK:
		return e
	case !ok:
		d.WriteString("lost")
	default:
		d.tell(append([]int{errors}, message...)...)
	}
	return api.OK
}

func (d *desk) polar(numbers []int, words []string) api.Errno {
	message, e := readWord(words[0])
	if e != api.OK {
		return e
	}
	return d.list(polar.Encode(numbers[0], message))
}

func (d *desk) mend(numbers []int, words []string) api.Errno {
	w, e := readWord(words[0])
	if e != api.OK {
		return e
	}
	word, ok, e := gap.Mend(numbers[0], numbers[1], w)
	switch {
	case e != api.OK:
		return e
	case !ok:
		d.WriteString("none")
	default:
		d.tell(word...)
	}
	return api.OK
}

func (d *desk) sign(numbers []int, words []string) api.Errno {
	sign, e := digits.Sign(numbers[0], words[0])
	d.WriteString(sign) // with an error there is none
	return e
}

func (d *desk) ring(numbers []int, _ []string) api.Errno {
	return d.list(digits.Ring(numbers[0], numbers[1]))
}

func (d *desk) gray(numbers []int, words []string) api.Errno {
	sizes, e := readNumbers(words)
	if e != api.OK {
		return e
	}
	return d.list(digits.Gray(sizes, numbers[0]))
}
