package code

import (
	"strconv"
	"strings"

	"syndrome/api"
)

// greatest: no number of a text may be above it.
const greatest = 9999

// Print is its text.
func Print(c api.Code) (string, api.Errno) {
	c, e := Make(c)
	if e != api.OK {
		return "", e
	}
	var text strings.Builder
	text.WriteString(line([]int{c.Q, c.N}))
	for _, row := range c.Rows {
		text.WriteString(line(row))
	}
	return text.String(), api.OK
}

// Parse reads one.
func Parse(text string) (api.Code, api.Errno) {
	if len(text) > api.MaxText {
		return api.Code{}, api.ErrLimit
	}
	if text == "" {
		return api.Code{}, api.ErrShort
	}
	var c api.Code
	for i, l := range strings.Split(strings.TrimSuffix(text, "\n"), "\n") {
		list, e := readLine(l)
		switch {
		case e != api.OK:
			return api.Code{}, e
		case i > 0:
			c.Rows = append(c.Rows, list)
		case len(list) != 2:
			return api.Code{}, api.ErrCount
		default:
			c.Q, c.N = list[0], list[1]
		}
	}
	return Make(c)
}

// line is the text of numbers, with a newline.
func line(list []int) string {
	words := make([]string, len(list))
	for i, v := range list {
		words[i] = strconv.Itoa(v)
	}
	return strings.Join(words, " ") + "\n"
}

// readLine reads the numbers of a line.
func readLine(line string) ([]int, api.Errno) {
	var out []int
	for _, word := range strings.Split(line, " ") {
		v, e := readNumber(word)
		if e != api.OK {
			return nil, e
		}
		out = append(out, v)
	}
	return out, api.OK
}

// readNumber reads one number, rune by rune.
func readNumber(word string) (int, api.Errno) {
	if word == "" || len(word) > 1 && word[0] == '0' {
		return 0, api.ErrWord
	}
	number := 0
	for _, sign := range word {
		digit, is := digitOf(sign)
		if !is {
			return 0, api.ErrWord
		}
		// Held down, as a long word might be no number of the machine; its other signs are still to be seen.
		number = min(number*10+digit, greatest+1)
	}
	if number > greatest {
		return 0, api.ErrLimit
	}
	return number, api.OK
}

// digitOf is the digit of a sign, if it is one.
func digitOf(sign rune) (int, bool) {
	if sign < '0' || sign > '9' {
		return 0, false
	}
	return int(sign - '0'), true
}
