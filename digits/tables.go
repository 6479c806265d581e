package digits

import "syndrome/api"

// tables: what the rules of Verhoeff and of Damm look digits up in.
type tables struct {
	group  [10][10]int // what the group of ten makes of two
	ends   [10]int     // with which one the group makes 0 of each
	turned [8][10]int  // what each becomes, turned so many times
	square [10][10]int // Damm's rows
}

// laid has the tables from the start on; nothing writes into them any more, and only Kept reads them.
var laid tables

func init() { laid = lay() }

// Kept is the sign that checks a text of digits, as Sign tells it, by the tables that were laid at the start: that spares the laying of others.
func Kept(kind int, text string) (string, api.Errno) { return signBy(laid, kind, text) }

// lay makes the tables.
func lay() tables {
	var t tables
	t.layGroup()
	t.layTurned()
	t.laySquare()
	return t
}

func (t *tables) layGroup() {
	for a := range 10 {
		for b := range 10 {
			c := together(a, b)
			t.group[a][b] = c
			if c == 0 {
				t.ends[a] = b
			}
		}
	}
}

// together is what the group of ten makes of two: turns of a five-sided thing, from 5 on with its other side up.
func together(a, b int) int {
	switch {
	case a < 5 && b < 5:
		return (a + b) % 5
	case a < 5:
		return (a+b)%5 + 5
	case b < 5:
		return (a-b)%5 + 5
	}
	return (a - b + 5) % 5
}

func (t *tables) layTurned() {
	once := [10]int{1, 5, 7, 6, 2, 8, 3, 0, 9, 4}
	for d := range 10 {
		for times, now := 0, d; times < 8; times++ {
			t.turned[times][d] = now
			now = once[now]
		}
	}
}

func (t *tables) laySquare() {
	rows := [10]string{
		"0317598642", "7092154863", "4206871359", "1750983426", "6123045978",
		"3674209581", "5869720134", "8945362017", "9438617205", "2581436790",
	}
	for c, row := range rows {
		for d := range row {
			t.square[c][d] = int(row[d] - '0')
		}
	}
}
