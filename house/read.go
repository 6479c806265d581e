package house

import "syndrome/api"

const (
	mostDigits = 6  // of a number
	lost       = -1 // what package reed hears where no number came
)

// readNumber reads a word as one number.
func readNumber(word string) (int, api.Errno) {
	digits, e := readWord(word)
	if e != api.OK {
		return 0, e
	}
	if len(digits) < 1 || len(digits) > mostDigits || len(digits) > 1 && digits[0] == 0 {
		return 0, api.ErrWord
	}
	number := 0
	for _, digit := range digits {
		number = number*10 + digit
	}
	return number, api.OK
}

// readWord reads a word as numbers of one digit each.
func readWord(word string) ([]int, api.Errno) {
	out := make([]int, 0, len(word))
	for _, sign := range word {
		if sign < '0' || sign > '9' {
			return nil, api.ErrWord
		}
		out = append(out, int(sign-'0'))
	}
	return out, api.OK
}

// readHeard reads a word as a number that came over a line, or is lost.
func readHeard(word string) (int, api.Errno) {
	if word == "-" {
		return lost, api.OK
	}
	return readNumber(word)
}

// readEach reads words one by one, up to the first that is wrong.
func readEach[T any](words []string, read func(word string) (T, api.Errno)) ([]T, api.Errno) {
	out := make([]T, 0, len(words))
	for _, word := range words {
		v, e := read(word)
		if e != api.OK {
			return nil, e
		}
		out = append(out, v)
	}
	return out, api.OK
}

// readNumbers reads each word as a number.
func readNumbers(words []string) ([]int, api.Errno) { return readEach(words, readNumber) }
