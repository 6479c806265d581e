package house_test

import (
	"fmt"
	"strings"
	"sync"
	"testing"

	"syndrome/api"
	"syndrome/hold"
	"syndrome/house"
)

// said: a line, and the one that answers it.
type said struct{ line, want string }

// errorOf is the line that tells an error.
func errorOf(e api.Errno) string { return fmt.Sprint("error ", int(e)) }

// talk ends a test, unless the lines of one session are answered so, whether or not a newline ends the text.
func talk(t *testing.T, all ...said) {
	t.Helper()
	var lines []string
	for _, s := range all {
		lines = append(lines, s.line)
	}
	text := strings.Join(lines, "\n")
	got := house.Session(text + "\n")
	answers := strings.Split(got, "\n")
	hold.Same(t, fmt.Sprintf("how many newlines answer %q", text), len(answers)-1, len(all))
	for i, s := range all {
		hold.Same(t, fmt.Sprintf("line %d, %q", i, s.line), answers[i], s.want)
	}
	if lines[len(lines)-1] != "" {
		hold.Same(t, "the session without a newline at its end", house.Session(text), got)
	}
}

// each ends a test, unless lines, each in a session of its own behind some others, are answered so.
func each(t *testing.T, ahead []said, all ...said) {
	t.Helper()
	for _, s := range all {
		talk(t, append(ahead[:len(ahead):len(ahead)], s)...)
	}
}

// hamming puts a code of seven bits on the desk.
var hamming = []said{{"code 2 7 1101000 0110100 0011010 0001101", "2 7 4"}}

const printed = "2 7 / 1 0 0 0 1 1 0 / 0 1 0 0 0 1 1 / 0 0 1 0 1 1 1 / 0 0 0 1 1 0 1"

// TestQ1Document: the lines that stand in the document, one behind the other.
func TestQ1Document(t *testing.T) {
	talk(t,
		said{"field 8", "2 3 2 1 1 0 1"},
		said{"field 9", "3 2 3 2 1 1"},
		said{"field 7", "7 1 3 0 1"},
		said{"code 2 7 1101000 0110100 0011010 0001101", "2 7 4"},
		said{"weights", "1 0 0 7 7 0 0 1"},
		said{"transform", "1 0 0 0 7 0 0 0"},
		said{"syndrome 1010101", "= 0 1 1"},
		said{"nearest 1111000", "1 1 0 1 0 0 0 1"},
		said{"dual", "2 7 3"},
		said{"weights", "1 0 0 0 7 0 0 0"},
		said{"print", "2 7 / 1 0 0 1 0 1 1 / 0 1 0 1 1 1 0 / 0 0 1 0 1 1 1"},
		said{"golay 2", "2 24 12"},
		said{"weights", "1 0 0 0 0 0 0 0 759 0 0 0 2576 0 0 0 759 0 0 0 0 0 0 0 1"},
		said{"code 3 4 1011 0112", "3 4 2"},
		said{"print", "3 4 / 1 0 1 1 / 0 1 1 2"},
		said{"extend", "3 5 2"},
		said{"puncture 0", "3 4 2"},
		said{"muller 1 3", "2 8 4"},
		said{"print", "2 8 / 1 0 0 1 0 1 1 0 / 0 1 0 1 0 1 0 1 / 0 0 1 1 0 0 1 1 / 0 0 0 0 1 1 1 1"},
		said{"bch 2 15 1 4", "2 15 7"},
		said{"bch 2 8 1 2", "error 3"},
		said{"squares 23", "error 4"},
		said{"bounds 2 7 3", "16 32 0 5"},
		said{"bounds 3 6 4", "56 27 0 4"},
		said{"reed 7 2 1 2 3 4 5 6", "0 1 1"},
		said{"reed 7 2 1 2 0 4 6 6", "2 1 1"},
		said{"reed 8 3 1 - 3 4 - 6 7", "lost"},
		said{"reed 5 2 1 1 1", "0 1 0"},
		said{"polar 3 1011", "1 0 1 0 0 1 0 1"},
		said{"mend 4 0 101", "1 0 0 1"},
		said{"mend 5 2 10110", "1 0 1 1 0"},
		said{"mend 4 1 10110", "1 1 1 0"},
		said{"sign 1 7992739871", "3"},
		said{"sign 2 030640615", "2"},
		said{"sign 4 236", "3"},
		said{"sign 5 572", "4"},
		said{"ring 2 4", "0 0 0 0 1 0 0 1 1 0 1 0 1 1 1 1"},
		said{"ring 3 2", "0 0 1 0 2 1 1 2 2"},
		said{"gray 5 2 3 4", "0 1 2"},
		said{"gray 99 2 3", "error 10"},
		said{"foo", "bad"},
	)
}

func TestQ1Field(t *testing.T) {
	each(t, nil,
		said{"field 2", "2 1 1 0 1"}, said{"field 4", "2 2 2 1 1 1"}, said{"field 64", "2 6 2 1 1 0 0 0 0 1"}, said{"field 61", "61 1 2 0 1"},
		said{"field 0", errorOf(api.ErrField)}, said{"field 1", errorOf(api.ErrField)}, said{"field 6", errorOf(api.ErrField)},
		said{"field 67", errorOf(api.ErrField)}, said{"field 999999", errorOf(api.ErrField)},
	)
}

func TestQ1Code(t *testing.T) {
	each(t, nil,
		said{"code 2 3", "2 3 0"}, said{"code 64 64", "64 64 0"}, said{"code 2 3 000", "2 3 0"}, said{"code 2 3 110 011 101", "2 3 2"},
		said{"code 2 1" + strings.Repeat(" 1", 64), "2 1 1"}, said{"code 16 2 98", "16 2 1"},
		said{"code 6 3 111", errorOf(api.ErrField)}, said{"code 6 0", errorOf(api.ErrField)}, said{"code 2 0", errorOf(api.ErrLimit)}, said{"code 2 65", errorOf(api.ErrLimit)},
		said{"code 2 1" + strings.Repeat(" 1", 65), errorOf(api.ErrLimit)},
		said{"code 2 3 11", errorOf(api.ErrForm)}, said{"code 2 3 111 11", errorOf(api.ErrForm)}, said{"code 2 3 111 ", errorOf(api.ErrForm)},
		said{"code 2 3 ", errorOf(api.ErrForm)}, said{"code 2 3  111", errorOf(api.ErrForm)}, said{"code 2 3 112", errorOf(api.ErrValue)},
		said{"code", errorOf(api.ErrShort)}, said{"code 2", errorOf(api.ErrShort)}, said{"code 6", errorOf(api.ErrShort)},
		said{"code x", errorOf(api.ErrWord)}, said{"code ", errorOf(api.ErrWord)}, said{"code 2 ", errorOf(api.ErrWord)},
		said{"code 2 3 1x1", errorOf(api.ErrWord)}, said{"code 6 0 111 -", errorOf(api.ErrWord)},
	)
	talk(t, said{"code 16 3 198 009", "16 3 2"}, said{"print", "16 3 / 1 9 0 / 0 0 1"}, said{"code 3 2", "3 2 0"}, said{"print", "3 2"}, said{"weights", "1 0 0"})
}

// TestQ1Changes: what comes of a code takes its place.
func TestQ1Changes(t *testing.T) {
	talk(t,
		hamming[0],
		said{"print", printed},
		said{"dual", "2 7 3"}, said{"dual", "2 7 4"}, said{"print", printed},
		said{"extend", "2 8 4"}, said{"weights", "1 0 0 0 14 0 0 0 1"},
		said{"puncture 7", "2 7 4"}, said{"print", printed},
		said{"shorten 6", "2 6 3"}, said{"weights", "1 0 0 4 3 0 0"},
		said{"shorten 0", "2 5 2"}, said{"print", "2 5 / 1 0 1 1 1 / 0 1 1 0 1"},
		said{"puncture 1", "2 4 2"}, said{"print", "2 4 / 1 0 1 0 / 0 1 0 1"},
		said{"code 5 1 1", "5 1 1"}, said{"dual", "5 1 0"}, said{"dual", "5 1 1"}, said{"extend", "5 2 1"}, said{"print", "5 2 / 1 4"},
	)
	each(t, hamming,
		said{"puncture 7", errorOf(api.ErrPlace)}, said{"puncture 999999", errorOf(api.ErrPlace)},
		said{"shorten 7", errorOf(api.ErrPlace)}, said{"shorten 999999", errorOf(api.ErrPlace)},
	)
	each(t, []said{{"code 2 1 1", "2 1 1"}},
		said{"puncture 0", errorOf(api.ErrLimit)}, said{"shorten 0", errorOf(api.ErrLimit)}, said{"puncture 1", errorOf(api.ErrPlace)},
	)
	each(t, []said{{"code 2 64", "2 64 0"}}, said{"extend", errorOf(api.ErrLimit)}, said{"dual", "2 64 64"})
}

func TestQ1Golay(t *testing.T) {
	talk(t, said{"golay 2", "2 24 12"}, said{"dual", "2 24 12"}, said{"golay 3", "3 12 6"}, said{"weights", "1 0 0 0 0 0 264 0 0 440 0 0 24"})
	for _, word := range []string{"", "0", "1", "4", "22", "02", "+2", "x", "2x", "2\t", "999999", "1000000", "\xff", "\u0662"} {
		each(t, nil, said{"golay " + word, errorOf(api.ErrKind)})
	}
}

func TestQ1Muller(t *testing.T) {
	each(t, nil,
		said{"muller 0 1", "2 2 1"}, said{"muller 1 1", "2 2 2"}, said{"muller 2 5", "2 32 16"}, said{"muller 5 5", "2 32 32"},
		said{"muller 9 3", errorOf(api.ErrCount)}, said{"muller 4 3", errorOf(api.ErrCount)},
		said{"muller 0 0", errorOf(api.ErrLimit)}, said{"muller 9 6", errorOf(api.ErrLimit)},
	)
}

func TestQ1Cyclic(t *testing.T) {
	talk(t,
		said{"bch 2 7 1 2", "2 7 4"}, said{"weights", "1 0 0 7 7 0 0 1"}, said{"print", "2 7 / 1 0 0 0 1 1 0 / 0 1 0 0 0 1 1 / 0 0 1 0 1 1 1 / 0 0 0 1 1 0 1"},
		said{"bch 8 7 1 4", "8 7 3"}, said{"bch 5 4 3 0", "5 4 4"}, said{"bch 2 1 0 0", "2 1 1"},
		said{"squares 7", "2 7 4"}, said{"weights", "1 0 0 7 7 0 0 1"}, said{"squares 31", "2 31 16"},
	)
	each(t, nil,
		said{"bch 6 0 99 99", errorOf(api.ErrField)}, said{"bch 2 0 99 99", errorOf(api.ErrLimit)}, said{"bch 2 65 1 1", errorOf(api.ErrLimit)},
		said{"bch 2 8 99 99", errorOf(api.ErrForm)}, said{"bch 2 7 7 99", errorOf(api.ErrPlace)}, said{"bch 2 7 6 7", errorOf(api.ErrCount)}, said{"bch 2 11 1 2", errorOf(api.ErrLimit)},
		said{"squares 2", errorOf(api.ErrLimit)}, said{"squares 65", errorOf(api.ErrLimit)}, said{"squares 15", errorOf(api.ErrForm)}, said{"squares 11", errorOf(api.ErrForm)}, said{"squares 23", errorOf(api.ErrLimit)},
	)
}

func TestQ1Weights(t *testing.T) {
	talk(t,
		said{"code 3 3 110 012", "3 3 2"}, said{"weights", "1 0 6 2"}, said{"transform", "1 0 0 2"},
		said{"dual", "3 3 1"}, said{"weights", "1 0 0 2"}, said{"transform", "1 0 6 2"}, said{"print", "3 3 / 1 2 2"},
		said{"code 64 5", "64 5 0"}, said{"transform", "1 315 39690 2500470 78764805 992436543"},
	)
	talk(t, said{"squares 31", "2 31 16"}, said{"weights", errorOf(api.ErrLimit)}, said{"transform", errorOf(api.ErrLimit)}, said{"nearest 1", errorOf(api.ErrLimit)})
	talk(t, said{"code 2 31", "2 31 0"}, said{"weights", "1" + strings.Repeat(" 0", 31)}, said{"transform", errorOf(api.ErrLimit)}) // too many words of that length
}

func TestQ1Syndrome(t *testing.T) {
	each(t, hamming,
		said{"syndrome 0000000", "= 0 0 0"}, said{"syndrome 1101000", "= 0 0 0"}, said{"syndrome 1000000", "= 1 0 0"}, said{"syndrome 0000001", "= 1 0 1"},
		said{"syndrome 10", errorOf(api.ErrCount)}, said{"syndrome ", errorOf(api.ErrCount)}, said{"syndrome 11111111", errorOf(api.ErrCount)}, said{"syndrome 99", errorOf(api.ErrCount)},
		said{"syndrome 0000002", errorOf(api.ErrValue)},
		said{"syndrome x", errorOf(api.ErrWord)}, said{"syndrome 000000x", errorOf(api.ErrWord)}, said{"syndrome -", errorOf(api.ErrWord)},
	)
	talk(t, said{"muller 1 1", "2 2 2"}, said{"syndrome 11", "="}, said{"syndrome 1", errorOf(api.ErrCount)})
	talk(t, said{"code 9 2 15", "9 2 1"}, said{"syndrome 15", "= 0"}, said{"syndrome 08", "= 3"}, said{"code 7 2", "7 2 0"}, said{"syndrome 06", "= 0 6"})
}

func TestQ1Nearest(t *testing.T) {
	each(t, hamming,
		said{"nearest 0000000", "0 0 0 0 0 0 0 0"}, said{"nearest 1111110", "1 1 1 1 1 1 1 1"}, said{"nearest 1101000", "1 1 0 1 0 0 0 0"},
		said{"nearest 10", errorOf(api.ErrCount)}, said{"nearest ", errorOf(api.ErrCount)}, said{"nearest 1111003", errorOf(api.ErrValue)}, said{"nearest 111100x", errorOf(api.ErrWord)},
	)
	talk(t, said{"code 5 3 111", "5 3 1"}, said{"nearest 314", "1 1 1 2"}, said{"nearest 344", "4 4 4 1"}, said{"code 5 3", "5 3 0"}, said{"nearest 304", "0 0 0 2"})
}

func TestQ1Bounds(t *testing.T) {
	each(t, nil,
		said{"bounds 2 1 1", "2 2 2 2"}, said{"bounds 2 7 5", "4 8 3 2"}, said{"bounds 2 30 1", "1073741824 1073741824 0 1073741824"}, said{"bounds 64 5 5", "26839 64 64 14"},
		said{"bounds 2 8 6", "6 8 3 2"},
		said{"bounds 6 0 0", errorOf(api.ErrField)}, said{"bounds 2 0 0", errorOf(api.ErrLimit)}, said{"bounds 2 31 0", errorOf(api.ErrLimit)}, said{"bounds 2 40 3", errorOf(api.ErrLimit)},
		said{"bounds 2 7 0", errorOf(api.ErrPlace)}, said{"bounds 2 7 8", errorOf(api.ErrPlace)}, said{"bounds 2 7 999999", errorOf(api.ErrPlace)},
	)
}

func TestQ1Reed(t *testing.T) {
	each(t, nil,
		said{"reed 7 1 6", "0 6"}, said{"reed 7 1 -", "lost"}, said{"reed 7 2 1 2 - 4 - -", "0 1 1"}, said{"reed 7 2 1 2 3 4 - 6", "0 1 1"},
		said{"reed 7 2 1 2 3 0 - 6", "1 1 1"}, said{"reed 7 2 0 0 3 0 - 0", "1 0 0"}, said{"reed 7 1 0 0 1 1", "lost"}, said{"reed 64 1" + strings.Repeat(" 63", 64), "0 63"},
		said{"reed 16 3 15 15 - 15 - 15", "0 15 0 0"}, said{"reed 11 2 10 0 1 2", "0 10 1"},
		said{"reed 6 0", errorOf(api.ErrField)}, said{"reed 7 2", errorOf(api.ErrLimit)}, said{"reed 7 9", errorOf(api.ErrLimit)}, said{"reed 64 1" + strings.Repeat(" 0", 65), errorOf(api.ErrLimit)},
		said{"reed 5 2 1 1 1 1 1 1", errorOf(api.ErrValue)}, said{"reed 5 9 1 1 1 1 1 1", errorOf(api.ErrValue)},
		said{"reed 7 0 1 2", errorOf(api.ErrCount)}, said{"reed 7 3 1 2", errorOf(api.ErrCount)}, said{"reed 7 3 9 9", errorOf(api.ErrCount)},
		said{"reed 7 2 1 7", errorOf(api.ErrValue)}, said{"reed 7 2 - 999999", errorOf(api.ErrValue)},
		said{"reed", errorOf(api.ErrShort)}, said{"reed 7", errorOf(api.ErrShort)}, said{"reed 6", errorOf(api.ErrShort)},
		said{"reed ", errorOf(api.ErrWord)}, said{"reed x", errorOf(api.ErrWord)}, said{"reed 7 ", errorOf(api.ErrWord)}, said{"reed - 2 1 2", errorOf(api.ErrWord)}, said{"reed 7 - 1 2", errorOf(api.ErrWord)},
		said{"reed 7 2 x", errorOf(api.ErrWord)}, said{"reed 6 0 01", errorOf(api.ErrWord)}, said{"reed 7 2 1 --", errorOf(api.ErrWord)}, said{"reed 7 2 1 -1", errorOf(api.ErrWord)},
		said{"reed 7 2 1 ", errorOf(api.ErrWord)}, said{"reed 7 2  1", errorOf(api.ErrWord)}, said{"reed 7 2 9 1000000", errorOf(api.ErrWord)},
	)
}

func TestQ1Polar(t *testing.T) {
	each(t, nil,
		said{"polar 0 1", "1"}, said{"polar 0 ", "0"}, said{"polar 2 ", "0 0 0 0"}, said{"polar 1 10", "1 0"}, said{"polar 1 1", "1 1"}, said{"polar 5 1", strings.Repeat("1 ", 31) + "1"},
		said{"polar 6 9", errorOf(api.ErrLimit)}, said{"polar 9 1", errorOf(api.ErrLimit)}, said{"polar 1 922", errorOf(api.ErrCount)}, said{"polar 1 12", errorOf(api.ErrValue)},
		said{"polar 9 1x", errorOf(api.ErrWord)}, said{"polar x 1", errorOf(api.ErrWord)}, said{"polar  1", errorOf(api.ErrWord)},
	)
}

func TestQ1Mend(t *testing.T) {
	each(t, nil,
		said{"mend 4 0 1001", "1 0 0 1"}, said{"mend 4 0 1000", "none"}, said{"mend 4 0 ", "none"}, said{"mend 4 0 10", "none"}, said{"mend 1 1 ", "1"}, said{"mend 1 0 ", "0"},
		said{"mend 12 12 1111111111111", "none"}, said{"mend 12 0 1111111111111", "1 1 1 1 1 1 1 1 1 1 1 1"},
		said{"mend 0 1 2", errorOf(api.ErrLimit)}, said{"mend 13 14 2", errorOf(api.ErrLimit)}, said{"mend 4 5 2", errorOf(api.ErrPlace)}, said{"mend 4 9 1", errorOf(api.ErrPlace)},
		said{"mend 4 0 22222222222222", errorOf(api.ErrLimit)}, said{"mend 4 0 102", errorOf(api.ErrValue)},
		said{"mend 0 9 1x", errorOf(api.ErrWord)}, said{"mend 4 x 1", errorOf(api.ErrWord)}, said{"mend 04 0 1", errorOf(api.ErrWord)},
	)
}

func TestQ1Sign(t *testing.T) {
	each(t, nil,
		said{"sign 2 080442957", "X"}, said{"sign 3 978030640615", "7"}, said{"sign 1 0", "0"}, said{"sign 5 000", "0"},
		said{"sign 0 1", errorOf(api.ErrKind)}, said{"sign 6 x", errorOf(api.ErrKind)}, said{"sign 9 1", errorOf(api.ErrKind)}, said{"sign 9 ", errorOf(api.ErrKind)},
		said{"sign 1 ", errorOf(api.ErrCount)}, said{"sign 2 08044295", errorOf(api.ErrCount)}, said{"sign 3 x", errorOf(api.ErrCount)}, said{"sign 5 " + strings.Repeat("1", 65), errorOf(api.ErrCount)},
		said{"sign 1 1x", errorOf(api.ErrWord)}, said{"sign 4 \u0661", errorOf(api.ErrWord)}, said{"sign 01 1", errorOf(api.ErrWord)}, said{"sign  1", errorOf(api.ErrWord)}, said{"sign x ", errorOf(api.ErrWord)},
	)
}

func TestQ1RingAndGray(t *testing.T) {
	each(t, nil,
		said{"ring 2 1", "0 1"}, said{"ring 10 1", "0 1 2 3 4 5 6 7 8 9"}, said{"ring 2 2", "0 0 1 1"},
		said{"ring 1 9", errorOf(api.ErrCount)}, said{"ring 11 9", errorOf(api.ErrCount)}, said{"ring 2 0", errorOf(api.ErrCount)}, said{"ring 2 11", errorOf(api.ErrLimit)}, said{"ring 2 999999", errorOf(api.ErrLimit)},
		said{"gray 0 2", "0"}, said{"gray 2 2 2", "1 1"}, said{"gray 3 2 2", "1 0"}, said{"gray 3 10 3", "1 2"}, said{"gray 1023 2 2 2 2 2 2 2 2 2 2", "1 0 0 0 0 0 0 0 0 0"},
		said{"gray 5", errorOf(api.ErrCount)}, said{"gray 5" + strings.Repeat(" 1", 11), errorOf(api.ErrCount)}, said{"gray 99 2 11", errorOf(api.ErrValue)}, said{"gray 99 2 1", errorOf(api.ErrValue)},
		said{"gray 9999 10 10 10 2", errorOf(api.ErrLimit)}, said{"gray 6 2 3", errorOf(api.ErrPlace)}, said{"gray 999999 2 3", errorOf(api.ErrPlace)},
		said{"gray", errorOf(api.ErrShort)}, said{"gray ", errorOf(api.ErrWord)}, said{"gray x", errorOf(api.ErrWord)}, said{"gray 99 1 02", errorOf(api.ErrWord)}, said{"gray 1 2 ", errorOf(api.ErrWord)}, said{"gray 1  2", errorOf(api.ErrWord)}, said{"gray 1 -", errorOf(api.ErrWord)},
	)
}

// TestQ1Bad: lines whose first word is none of the table's, or that have too few or too many words.
func TestQ1Bad(t *testing.T) {
	for _, line := range []string{"", " ", "  ", "foo", "foo 1", "Field 8", "FIELD 8", "fiel 8", "fields 8", " field 8", "\tfield 8", "field\t8", "field8", "8 field", "x\x00", "\xff", "error 3", "bad", "=", "-", "print\r", "line 7"} {
		each(t, nil, said{line, "bad"})
		each(t, hamming, said{line, "bad"})
	}
	for name, words := range map[string]int{
		"field": 1, "dual": 0, "extend": 0, "puncture": 1, "shorten": 1, "golay": 1, "muller": 2, "bch": 4, "squares": 1, "weights": 0, "transform": 0,
		"syndrome": 1, "nearest": 1, "print": 0, "bounds": 3, "polar": 2, "mend": 3, "sign": 2, "ring": 2,
	} {
		for many := range 8 {
			for _, word := range []string{"", "1", "x"} {
				line := name + strings.Repeat(" "+word, many)
				got := house.Session(line)
				hold.Same(t, fmt.Sprintf("whether %q is bad", line), got == "bad\n", many != words)
			}
		}
	}
}

// TestQ1Dots: where dots stand there may be any number of words; the words ahead of them may be missing.
func TestQ1Dots(t *testing.T) {
	for name, ahead := range map[string]int{"code": 2, "reed": 2, "gray": 1} {
		for many := range 300 {
			line := name + strings.Repeat(" 1", many)
			got := house.Session(line)
			hold.Same(t, fmt.Sprintf("whether %q is bad", line), got == "bad\n", false)
			hold.Same(t, fmt.Sprintf("whether %q is too short", line), got == "error 12\n", many < ahead)
		}
	}
}

// forms: an ordinary line of each kind with numbers, and how many words of it, behind the name, are numbers.
var forms = []struct {
	line    string
	numbers int
}{
	{"field 8", 1}, {"code 2 3 111", 2}, {"puncture 0", 1}, {"shorten 1", 1}, {"muller 1 3", 2}, {"bch 2 15 1 4", 4}, {"squares 7", 1}, {"bounds 2 7 3", 3},
	{"reed 7 2 1 2 3", 5}, {"polar 3 1011", 1}, {"mend 4 0 101", 2}, {"sign 1 799", 1}, {"ring 2 4", 2}, {"gray 5 2 3 4", 4},
}

// TestQ1Numbers: what is no number is told ahead of all else, wherever a number should stand.
func TestQ1Numbers(t *testing.T) {
	wrong := []string{"", "x", "00", "01", "007", "0000001", "1234567", "10000000000000000000000", "+1", "-1", "--", "1x", "x1", "1.", "1\t", "\u0661", "1\u0661", "\xff", "\x00", "1e1", "0x1"}
	for _, form := range forms {
		words := strings.Split(form.line, " ")
		for at := 1; at <= form.numbers; at++ {
			for _, word := range wrong {
				one, all := strings.Split(form.line, " "), strings.Split(form.line, " ")
				for i := range all[1:] {
					all[1+i] = "999999"
				}
				one[at], all[at] = word, word
				for _, ahead := range [][]said{nil, hamming} {
					each(t, ahead, said{strings.Join(one, " "), errorOf(api.ErrWord)}, said{strings.Join(all, " "), errorOf(api.ErrWord)})
				}
			}
			words[at] = "999999" // of six digits: that is a number
		}
		got := house.Session(strings.Join(words, " "))
		hold.Same(t, strings.Join(words, " ")+" is read", strings.HasPrefix(got, "error ") && got != "error 11\n", true)
	}
}

// TestQ1Words: a WORD has digits alone, perhaps none.
func TestQ1Words(t *testing.T) {
	for _, line := range []string{"code 2 3 %s", "code 2 3 111 %s", "code 6 0 %s 111", "syndrome %s", "nearest %s", "polar 3 %s", "polar 9 %s", "mend 4 0 %s", "mend 99 99 %s"} {
		for _, word := range []string{"x", "-", "-1", "1x", "x1", "1,1", "11x", "1\t", "\x001", "\xff", "\u0661", "1\u0661", "1/", ":"} {
			for _, ahead := range [][]said{nil, hamming} {
				each(t, ahead, said{fmt.Sprintf(line, word), errorOf(api.ErrWord)})
			}
		}
	}
	talk(t, said{"code 11 10 0123456789", "11 10 1"}, said{"print", "11 10 / 0 1 2 3 4 5 6 7 8 9"}, said{"nearest 0123456789", "0 1 2 3 4 5 6 7 8 9 0"})
	talk(t, said{"code 2 64 " + strings.Repeat("1", 64), "2 64 1"}, said{"syndrome " + strings.Repeat("01", 500), errorOf(api.ErrCount)})
}

// TestQ1NoCode: where a code is asked for and none lies there, that is told behind what is wrong with the words.
func TestQ1NoCode(t *testing.T) {
	asking := []said{
		{"dual", errorOf(api.ErrFail)}, {"extend", errorOf(api.ErrFail)}, {"puncture 0", errorOf(api.ErrFail)}, {"puncture 999999", errorOf(api.ErrFail)}, {"shorten 1", errorOf(api.ErrFail)},
		{"weights", errorOf(api.ErrFail)}, {"transform", errorOf(api.ErrFail)}, {"syndrome 1010101", errorOf(api.ErrFail)}, {"syndrome ", errorOf(api.ErrFail)}, {"nearest 99", errorOf(api.ErrFail)}, {"print", errorOf(api.ErrFail)},
		{"puncture x", errorOf(api.ErrWord)}, {"shorten 01", errorOf(api.ErrWord)}, {"syndrome x", errorOf(api.ErrWord)}, {"nearest 1x", errorOf(api.ErrWord)},
		{"dual 1", "bad"}, {"print ", "bad"}, {"syndrome", "bad"},
	}
	each(t, nil, asking...)
	// Lines that tell no code put none there, nor do those that tell an error.
	others := []said{
		{"field 8", "2 3 2 1 1 0 1"}, {"bounds 2 7 3", "16 32 0 5"}, {"reed 5 2 1 1 1", "0 1 0"}, {"polar 0 1", "1"}, {"mend 4 0 101", "1 0 0 1"}, {"sign 5 572", "4"}, {"ring 2 1", "0 1"}, {"gray 0 2", "0"},
		{"code 2", errorOf(api.ErrShort)}, {"code 2 3 112", errorOf(api.ErrValue)}, {"golay 4", errorOf(api.ErrKind)}, {"muller 9 3", errorOf(api.ErrCount)}, {"bch 2 8 1 2", errorOf(api.ErrForm)}, {"squares 23", errorOf(api.ErrLimit)}, {"", "bad"},
	}
	for _, other := range others {
		talk(t, append([]said{other}, asking...)...)
	}
	talk(t, append(others, asking...)...)
}

// TestQ1ErrorsLeaveTheCode: the code stays as it is with all lines but those that tell another one.
func TestQ1ErrorsLeaveTheCode(t *testing.T) {
	all := append([]said(nil), hamming...)
	for _, s := range []said{
		{"puncture 7", errorOf(api.ErrPlace)}, {"shorten 7", errorOf(api.ErrPlace)}, {"puncture x", errorOf(api.ErrWord)}, {"dual 1", "bad"}, {"code", errorOf(api.ErrShort)}, {"code 2 2 1x", errorOf(api.ErrWord)},
		{"code 2 2 111", errorOf(api.ErrForm)}, {"golay 4", errorOf(api.ErrKind)}, {"muller 0 0", errorOf(api.ErrLimit)}, {"bch 2 8 1 2", errorOf(api.ErrForm)}, {"squares 9", errorOf(api.ErrForm)},
		{"weights", "1 0 0 7 7 0 0 1"}, {"transform", "1 0 0 0 7 0 0 0"}, {"syndrome 0000001", "= 1 0 1"}, {"nearest 0000001", "0 0 0 0 0 0 0 1"}, {"syndrome 1", errorOf(api.ErrCount)}, {"nearest 2222222", errorOf(api.ErrValue)},
		{"field 4", "2 2 2 1 1 1"}, {"foo", "bad"}, {"reed 7 1 -", "lost"}, {"mend 4 0 ", "none"},
	} {
		all = append(all, s, said{"print", printed})
	}
	talk(t, all...)
	talk(t, said{"code 2 64", "2 64 0"}, said{"extend", errorOf(api.ErrLimit)}, said{"print", "2 64"}, said{"puncture 63", "2 63 0"}, said{"extend", "2 64 0"})
}

// TestQ1Lines: newlines part lines; one at the end begins none.
func TestQ1Lines(t *testing.T) {
	for text, want := range map[string]string{
		"": "", "\n": "bad\n", "\n\n": "bad\nbad\n", " ": "bad\n", "field 4": "2 2 2 1 1 1\n", "field 4\n": "2 2 2 1 1 1\n", "field 4\n\n": "2 2 2 1 1 1\nbad\n", "\nfield 4": "bad\n2 2 2 1 1 1\n",
		"gray\n\ngray": "error 12\nbad\nerror 12\n", "field 4\r\n": "error 11\n", "dual\r\n": "bad\n", "gray 0 2\rgray 0 2": "error 11\n", "gray 0 2\x0bx": "error 11\n", "gray 0 2\u2028": "error 11\n",
	} {
		hold.Same(t, fmt.Sprintf("Session of %q", text), house.Session(text), want)
	}
}

func TestQ1TooLong(t *testing.T) {
	for _, c := range []struct{ text, want string }{
		{strings.Repeat("x", api.MaxText), "bad\n"},
		{strings.Repeat("x", api.MaxText+1), "too long\n"},
		{strings.Repeat("\n", api.MaxText), strings.Repeat("bad\n", api.MaxText)},
		{strings.Repeat("\n", api.MaxText+1), "too long\n"},
		{strings.Repeat("dual\n", 800), strings.Repeat("error 9\n", 800)},
		{strings.Repeat("dual\n", 800) + "\n", "too long\n"},
		{strings.Repeat("dual\n", 801), "too long\n"},
		{strings.Repeat("\u0661", api.MaxText/2), "bad\n"},
		{strings.Repeat("\u0661", api.MaxText/2) + "\n", "too long\n"},
		{strings.Repeat("gray\n", 1<<20), "too long\n"},
		{"gray" + strings.Repeat(" ", api.MaxText-4), "error 11\n"},
		{"reed 2 1" + strings.Repeat(" -", (api.MaxText-8)/2), "error 4\n"},
		{"golay 3\nprint" + strings.Repeat("\ndual", 797), "3 12 6\n3 12 / 1 0 0 0 0 0 2 0 1 2 1 2 / 0 1 0 0 0 0 1 2 2 2 1 0 / 0 0 1 0 0 0 1 1 1 0 1 1 / 0 0 0 1 0 0 1 1 0 2 2 2 / 0 0 0 0 1 0 2 1 2 2 0 1 / 0 0 0 0 0 1 0 2 1 2 2 1\n" + strings.Repeat("3 12 6\n", 797)},
	} {
		hold.Same(t, fmt.Sprintf("Session of %d bytes, %.20q ..", len(c.text), c.text), house.Session(c.text), c.want)
	}
}

// TestQ1OneByOne: each session has a desk of its own, also where several go on at once.
func TestQ1OneByOne(t *testing.T) {
	text := "golay 2\nprint\nextend\nprint\nshorten 3\nweights"
	want := house.Session(text)
	hold.Same(t, "the next session", house.Session("print\n"), "error 9\n")
	got := make([]string, 16)
	var all sync.WaitGroup
	for i := range got {
		all.Go(func() {
			if i%2 == 1 {
				got[i] = house.Session(strings.Repeat("print\nfoo\nmuller 1 2\nsquares 23\nprint\n", 20))
			} else {
				got[i] = house.Session(text)
			}
		})
	}
	all.Wait()
	for i := range got {
		if i%2 == 0 {
			hold.Same(t, "a session of several at once", got[i], want)
		}
		hold.Same(t, "a session of several at once", got[i], got[i%2])
	}
	hold.Same(t, "what the others told", strings.HasPrefix(got[1], "error 9\nbad\n2 4 3\nerror 4\n2 4 / 1 0 0 1 / 0 1 0 1 / 0 0 1 1\n2 4 / 1 0 0 1"), true)
}
