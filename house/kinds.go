package house

import "syndrome/api"

// dots: of words, that any number of them may stand there.
const dots = -1

// kind: which words a line has, and what it does. If it answers an error it has written nothing.
type kind struct {
	name    string
	numbers int // so many numbers stand behind the name
	words   int // so many other words behind these
	do      func(d *desk, numbers []int, words []string) api.Errno
}

// laid has all kinds from the start on; nothing writes into it any more, and only Kept reads it.
var laid []kind

func init() { laid = kinds() }

// Kept answers a text as Session does, by the table that was laid at the start: that spares the laying of another one.
func Kept(text string) string { return sessionBy(laid, text) }

// kinds has all kinds of lines.
func kinds() []kind {
	return []kind{
		{"field", 1, 0, (*desk).field},
		{"code", 2, dots, (*desk).code},
		{"dual", 0, 0, (*desk).dual},
		{"extend", 0, 0, (*desk).extend},
		{"puncture", 1, 0, (*desk).puncture},
		{"shorten", 1, 0, (*desk).shorten},
		{"golay", 0, 1, (*desk).golay},
		{"muller", 2, 0, (*desk).muller},
		{"bch", 4, 0, (*desk).bch},
		{"squares", 1, 0, (*desk).squares},
		{"weights", 0, 0, (*desk).weights},
		{"transform", 0, 0, (*desk).transform},
		{"syndrome", 0, 1, (*desk).syndrome},
		{"nearest", 0, 1, (*desk).nearest},
		{"print", 0, 0, (*desk).print},
		{"bounds", 3, 0, (*desk).bounds},
		{"reed", 2, dots, (*desk).reed},
		{"polar", 1, 1, (*desk).polar},
		{"mend", 2, 1, (*desk).mend},
		{"sign", 1, 1, (*desk).sign},
		{"ring", 2, 0, (*desk).ring},
		{"gray", 1, dots, (*desk).gray},
	}
}

// find is the kind of that name; false: there is none, or a line of it has another number of words.
func find(table []kind, name string, words []string) (kind, bool) {
	for _, k := range table {
		if k.name == name {
			return k, k.words == dots || len(words) == k.numbers+k.words
		}
	}
	return kind{}, false
}
