package digits

import "syndrome/api"

// rule: what a kind asks of a text, and how it finds the sign that checks it.
type rule struct {
	fewest, most int                              // how many digits the text has
	sign         func(digits []int, t tables) int // ten stands for X
}

// rules has the rule of each kind.
func rules() map[int]rule {
	return map[int]rule{
		api.Luhn:     {1, api.MaxLength, luhn},
		api.Book:     {9, 9, book},
		api.Trade:    {12, 12, trade},
		api.Verhoeff: {1, api.MaxLength, verhoeff},
		api.Damm:     {1, api.MaxLength, damm},
	}
}

// signBy is the sign that checks a text of digits, by tables of which a rule may take some.
func signBy(t tables, kind int, text string) (string, api.Errno) {
	r, ok := rules()[kind]
	if !ok {
		return "", api.ErrKind
	}
	if len(text) < r.fewest || len(text) > r.most {
		return "", api.ErrCount
	}
	digits, e := read(text)
	if e != api.OK {
		return "", e
	}
	at := r.sign(digits, t)
	return "0123456789X"[at : at+1], api.OK
}

// read are a text's digits as numbers.
func read(text string) ([]int, api.Errno) {
	out := make([]int, len(text))
	for i := range out {
		if text[i] < '0' || text[i] > '9' {
			return nil, api.ErrWord
		}
		out[i] = int(text[i] - '0')
	}
	return out, api.OK
}

// toTen is the digit that makes a sum a multiple of ten.
func toTen(sum int) int { return (10 - sum%10) % 10 }

func luhn(digits []int, _ tables) int {
	sum := 0
	for i, d := range digits {
		if (len(digits)-i)%2 == 1 {
			d *= 2
		}
		sum += d/10 + d%10
	}
	return toTen(sum)
}

func book(digits []int, _ tables) int {
	sum := 0
	for i, d := range digits {
		sum += (i + 1) * d
	}
	return sum % 11
}

func trade(digits []int, _ tables) int {
	sum := 0
	for i, d := range digits {
		sum += (1 + i%2*2) * d
	}
	return toTen(sum)
}

func verhoeff(digits []int, t tables) int {
	c := 0
	for i := range digits {
		d := digits[len(digits)-1-i]
		c = t.group[c][t.turned[(i+1)%8][d]]
	}
	return t.ends[c]
}

func damm(digits []int, t tables) int {
	c := 0
	for _, d := range digits {
		c = t.square[c][d]
	}
	return c
}
