package digits

import (
	"math"
	"slices"
	"testing"

	"syndrome/api"
	"syndrome/hold"
)

// texts that each kind may be asked for, and some that none may.
var texts = []string{"", "0", "236", "572", "7992739871", "030640615", "978030640615", "x", "12x", "3141592653589793238462643383279"}

// layOther puts other tables where those stand that were laid at the start, and takes them back when the test ends.
func layOther(t *testing.T, other tables) {
	t.Helper()
	before := laid
	laid = other
	t.Cleanup(func() { laid = before })
}

// TestI1StartSaysNothing: what the document's calls answer is worked out, whatever stands there from the start, and they put nothing there.
func TestI1StartSaysNothing(t *testing.T) {
	layOther(t, tables{})
	for _, c := range []struct {
		kind       int
		text, want string
	}{
		{api.Luhn, "7992739871", "3"}, {api.Book, "030640615", "2"}, {api.Trade, "978030640615", "7"}, {api.Verhoeff, "236", "3"}, {api.Damm, "572", "4"},
	} {
		got, _ := Sign(c.kind, c.text)
		hold.Same(t, "Sign "+c.text, got, c.want)
		is, _ := Right(c.kind, c.text+c.want)
		hold.Same(t, "Right "+c.text+c.want, is, true)
	}
	hold.Same(t, "what stands there", laid, tables{})
}

// TestI1Kept: it tells what Sign tells, and leaves the tables as they are.
func TestI1Kept(t *testing.T) {
	for _, kind := range []int{math.MinInt, -1, 0, api.Luhn, api.Book, api.Trade, api.Verhoeff, api.Damm, 6, math.MaxInt} {
		for _, text := range texts {
			want, wrong := Sign(kind, text)
			got, e := Kept(kind, text)
			hold.Same(t, "Kept "+text, got, want)
			hold.Same(t, "Kept "+text, e, wrong)
		}
	}
	hold.Same(t, "what stands there", laid, lay())
}

// TestI1KeptReads: what it tells comes of what stands there.
func TestI1KeptReads(t *testing.T) {
	other := lay()
	other.turned[1][6] = 0
	other.square[0][5] = 1
	layOther(t, other)
	for _, c := range []struct {
		kind       int
		text, want string
	}{
		{api.Verhoeff, "6", "0"}, {api.Verhoeff, "7", "0"}, {api.Damm, "5", "1"}, {api.Damm, "6", "8"}, {api.Luhn, "5", "9"},
	} {
		got, e := Kept(c.kind, c.text)
		hold.Same(t, "Kept's error", e, api.OK)
		hold.Same(t, "Kept "+c.text, got, c.want)
	}
}

// TestI1Tables: the group is one, a digit turned 8 times is where it was, and Damm's rows and columns have each digit once.
func TestI1Tables(t *testing.T) {
	made := lay()
	for a := range 10 {
		hold.Same(t, "with 0", made.group[a][0], a)
		hold.Same(t, "of 0", made.group[0][a], a)
		hold.Same(t, "its end", made.group[a][made.ends[a]], 0)
		for b := range 10 {
			for c := range 10 {
				hold.Same(t, "one behind the other", made.group[made.group[a][b]][c], made.group[a][made.group[b][c]])
			}
		}
		hold.Same(t, "turned 8 times", made.turned[1][made.turned[7][a]], a)
		var column []int
		for b := range 10 {
			column = append(column, made.square[b][a])
		}
		row := slices.Sorted(slices.Values(made.square[a][:]))
		hold.List(t, "a row", row, hold.UpTo(10)...)
		hold.List(t, "a column", slices.Sorted(slices.Values(column)), hold.UpTo(10)...)
	}
}
