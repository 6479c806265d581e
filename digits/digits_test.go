package digits_test

import (
	"fmt"
	"math"
	"slices"
	"strings"
	"testing"

	"syndrome/api"
	"syndrome/digits"
	"syndrome/hold"
)

var kinds = []int{api.Luhn, api.Book, api.Trade, api.Verhoeff, api.Damm}

// noKinds: numbers of which none is a kind.
var noKinds = []int{0, -1, 6, 7, 256 + 1, 1<<32 + 1, math.MinInt, math.MaxInt}

// told is a list of digits as a text.
func told(list []int) string {
	var out strings.Builder
	for _, d := range list {
		fmt.Fprint(&out, d)
	}
	return out.String()
}

// drawn is a text of digits that a kind may be asked for.
func drawn(d *hold.Draw, kind int) string {
	switch kind {
	case api.Book:
		return told(d.List(10, 9))
	case api.Trade:
		return told(d.List(10, 12))
	}
	return told(d.List(10, 1+d.Below(api.MaxLength)))
}

// sign is what Sign tells of a text that may be.
func sign(t *testing.T, kind int, text string) string {
	t.Helper()
	out, e := digits.Sign(kind, text)
	hold.Same(t, fmt.Sprint("Sign ", kind, " ", text), e, api.OK)
	hold.Same(t, "how long a sign is", len(out), 1)
	return out
}

// fits says whether a text that ends with its sign adds up, as a kind asks for it.
func fits(kind int, text string) bool {
	switch kind {
	case api.Luhn:
		return fitsLuhn(text)
	case api.Book:
		return fitsBook(text)
	case api.Trade:
		return fitsTrade(text)
	case api.Verhoeff:
		return fitsVerhoeff(text)
	}
	return fitsDamm(text)
}

// fitsLuhn: the sign is at place 0 from the end; those at odd places are doubled, what each becomes stands written out.
func fitsLuhn(text string) bool {
	sum := 0
	for i := range text {
		d := int(text[len(text)-1-i] - '0')
		if i%2 == 1 {
			d = []int{0, 2, 4, 6, 8, 1, 3, 5, 7, 9}[d]
		}
		sum += d
	}
	return sum%10 == 0
}

// fitsBook: ten times the last sign, and so on up: 11 divides that too.
func fitsBook(text string) bool {
	sum := 0
	for i, r := range text {
		d := int(r - '0')
		if r == 'X' {
			d = 10
		}
		sum += (len(text) - i) * d
	}
	return sum%11 == 0
}

func fitsTrade(text string) bool {
	sum := 0
	for i := range text {
		sum += int(text[i] - '0')
		if i == 1 || i == 3 || i == 5 || i == 7 || i == 9 || i == 11 {
			sum += 2 * int(text[i]-'0')
		}
	}
	return sum%10 == 0
}

// seen is where the five corners of a thing are, once an element of the group of ten is done to it: turned by it, or (from 5 on) flipped as well.
func seen(element int, corners [5]int) (out [5]int) {
	for i, c := range corners {
		if element < 5 {
			out[i] = (c + element) % 5
		} else {
			out[i] = (element - c) % 5
		}
	}
	return out
}

// fitsVerhoeff: what the digits do to five corners, the sign first, leaves these where they were.
func fitsVerhoeff(text string) bool {
	once := [10]int{1, 5, 7, 6, 2, 8, 3, 0, 9, 4}
	corners := [5]int{0, 1, 2, 3, 4}
	// The last one that is done stands first in the group's product: the sign, which comes last there, is done first.
	for i := range text {
		if i == 0 {
			corners = seen(int(text[len(text)-1]-'0'), corners)
			continue
		}
		d := int(text[i-1] - '0')
		for range (len(text) - i) % 8 {
			d = once[d]
		}
		corners = seen(d, corners)
	}
	return corners == [5]int{0, 1, 2, 3, 4}
}

// fitsDamm: the square has noughts where row and column are alike, so the sign leads to 0.
func fitsDamm(text string) bool {
	const square = "0317598642 7092154863 4206871359 1750983426 6123045978 3674209581 5869720134 8945362017 9438617205 2581436790"
	c := byte('0')
	for i := range text {
		c = strings.Fields(square)[c-'0'][text[i]-'0']
	}
	return c == '0'
}

func TestI1Sign(t *testing.T) {
	d := hold.Draw(21)
	for _, kind := range kinds {
		for range 3000 {
			text := drawn(&d, kind)
			if text += sign(t, kind, text); !fits(kind, text) {
				t.Fatalf("kind %d: %s doesn't fit", kind, text)
			}
		}
	}
}

// TestI1SignShort: of few digits all texts, and one sign alone fits.
func TestI1SignShort(t *testing.T) {
	for _, kind := range []int{api.Luhn, api.Verhoeff, api.Damm} {
		for many := 1; many <= 3; many++ {
			for list := range hold.Each(10, many) {
				text, is := told(list), ""
				for last := range 10 {
					if all := text + fmt.Sprint(last); fits(kind, all) {
						is += fmt.Sprint(last)
					}
				}
				hold.Same(t, fmt.Sprint("Sign ", kind, " ", text), sign(t, kind, text), is)
			}
		}
	}
}

func TestI1SignKnown(t *testing.T) {
	for _, c := range []struct {
		kind       int
		text, want string
	}{
		{api.Luhn, "7992739871", "3"}, {api.Luhn, "0", "0"}, {api.Luhn, "5", "9"}, {api.Luhn, "411111111111111", "1"},
		{api.Book, "030640615", "2"}, {api.Book, "080442957", "X"}, {api.Book, "000000000", "0"}, {api.Book, "100000000", "1"}, {api.Book, "000000001", "9"},
		{api.Trade, "978030640615", "7"}, {api.Trade, "400638133393", "1"}, {api.Trade, "000000000000", "0"}, {api.Trade, "010000000000", "7"}, {api.Trade, "000000000010", "9"},
		{api.Verhoeff, "236", "3"}, {api.Verhoeff, "12345", "1"}, {api.Verhoeff, "142857", "0"}, {api.Verhoeff, "0", "4"},
		{api.Damm, "572", "4"}, {api.Damm, "0", "0"}, {api.Damm, "43881234567", "9"},
		{api.Luhn, strings.Repeat("9", api.MaxLength), "4"}, {api.Damm, strings.Repeat("0", api.MaxLength), "0"},
	} {
		hold.Same(t, fmt.Sprint("Sign ", c.kind, " ", c.text), sign(t, c.kind, c.text), c.want)
	}
}

// aText is a text that a kind may be asked for.
func aText(kind int) string {
	if kind == api.Book {
		return "123456789"
	}
	return "123456789012"
}

func TestI1SignErrors(t *testing.T) {
	long := strings.Repeat("1", api.MaxLength+1)
	type wrong struct {
		kind int
		text string
		want api.Errno
	}
	var all []wrong
	for _, kind := range noKinds {
		for _, text := range []string{"", "1", "x", long, "123456789", "123456789012"} {
			all = append(all, wrong{kind, text, api.ErrKind})
		}
	}
	for _, kind := range kinds {
		all = append(all, wrong{kind, "", api.ErrCount}, wrong{kind, long, api.ErrCount}, wrong{kind, long + "x", api.ErrCount})
	}
	for many := range api.MaxLength + 9 {
		if many != 9 {
			all = append(all, wrong{api.Book, strings.Repeat("1", many), api.ErrCount}, wrong{api.Book, strings.Repeat("x", many), api.ErrCount})
		}
		if many != 12 {
			all = append(all, wrong{api.Trade, strings.Repeat("1", many), api.ErrCount}, wrong{api.Trade, strings.Repeat("x", many), api.ErrCount})
		}
	}
	for b := range 256 {
		if b < '0' || b > '9' {
			for _, kind := range kinds {
				for at := range aText(kind) {
					text := []byte(aText(kind))
					text[at] = byte(b)
					all = append(all, wrong{kind, string(text), api.ErrWord})
				}
			}
		}
	}
	all = append(all, wrong{api.Luhn, "1\u0663", api.ErrWord}, wrong{api.Damm, "-1", api.ErrWord}, wrong{api.Book, "08044295X", api.ErrWord}, wrong{api.Luhn, " 1", api.ErrWord})
	for _, c := range all {
		what := fmt.Sprintf("Sign %d %q", c.kind, c.text)
		got, e := digits.Sign(c.kind, c.text)
		hold.Same(t, what, e, c.want)
		hold.Same(t, what, got, "")
	}
}

// right is what Right tells of a text that may be.
func right(t *testing.T, kind int, text string) bool {
	t.Helper()
	out, e := digits.Right(kind, text)
	hold.Same(t, fmt.Sprintf("Right %d %q", kind, text), e, api.OK)
	return out
}

func TestI2Right(t *testing.T) {
	d := hold.Draw(22)
	for _, kind := range kinds {
		for range 40 {
			text := drawn(&d, kind)
			want := sign(t, kind, text)
			for b := range 256 {
				all := text + string([]byte{byte(b)})
				hold.Same(t, fmt.Sprintf("Right %d %q", kind, all), right(t, kind, all), all == text+want)
			}
		}
	}
	hold.Same(t, "Right of a book's X", right(t, api.Book, "080442957X"), true)
	hold.Same(t, "Right of a book's x", right(t, api.Book, "080442957x"), false)
	hold.Same(t, "Right of 2 bytes", right(t, api.Damm, "00"), true)
	hold.Same(t, "Right of 2 bytes", right(t, api.Damm, "0X"), false)
	long := strings.Repeat("0", api.MaxLength+1)
	hold.Same(t, "Right of the longest", right(t, api.Luhn, long), true)
}

// TestI2OneWrongShows: one digit that is wrong shows; with some kinds also two neighbours that change places, with Book any two.
func TestI2OneWrongShows(t *testing.T) {
	d := hold.Draw(23)
	for _, kind := range kinds {
		for range 20 {
			text := drawn(&d, kind)
			text += sign(t, kind, text)
			for i := range text[1:] {
				for v := range 10 {
					other := text[:i] + fmt.Sprint(v) + text[i+1:]
					hold.Same(t, fmt.Sprint("Right ", kind, other), right(t, kind, other), other == text)
				}
			}
			if kind != api.Luhn && kind != api.Trade {
				changed(t, kind, text)
			}
		}
	}
}

// changed ends a test, unless it shows where digits of a text change places.
func changed(t *testing.T, kind int, text string) {
	t.Helper()
	for i := range text[1:] {
		for j := i + 1; j < len(text)-1; j++ {
			if kind != api.Book && j > i+1 {
				break
			}
			other := []byte(text)
			other[i], other[j] = other[j], other[i]
			hold.Same(t, fmt.Sprint("Right ", kind, string(other)), right(t, kind, string(other)), text[i] == text[j])
		}
	}
}

func TestI2RightErrors(t *testing.T) {
	for _, c := range []struct {
		kinds []int
		text  string
		want  api.Errno
	}{
		{noKinds, "", api.ErrKind}, {noKinds, "1", api.ErrKind}, {noKinds, "xx", api.ErrKind}, {noKinds, "0306406152", api.ErrKind},
		{kinds, "", api.ErrCount}, {kinds, "1", api.ErrCount}, {kinds, "x", api.ErrCount}, {kinds, "\xff", api.ErrCount},
		{kinds, strings.Repeat("0", api.MaxLength+2), api.ErrCount}, {kinds, strings.Repeat("x", api.MaxLength+2), api.ErrCount},
		{[]int{api.Book}, "030640615", api.ErrCount}, {[]int{api.Book}, "03064061520", api.ErrCount}, {[]int{api.Book}, "00", api.ErrCount},
		{[]int{api.Trade}, "978030640615", api.ErrCount}, {[]int{api.Trade}, "97803064061570", api.ErrCount}, {[]int{api.Trade}, "x0", api.ErrCount},
		{[]int{api.Luhn, api.Verhoeff, api.Damm}, "x0", api.ErrWord}, {[]int{api.Luhn, api.Verhoeff, api.Damm}, "X0", api.ErrWord},
		{[]int{api.Luhn, api.Verhoeff, api.Damm}, "1\u0663", api.ErrWord},
		{[]int{api.Book}, "08044295XX", api.ErrWord}, {[]int{api.Trade}, "97803064061x7", api.ErrWord},
	} {
		for _, kind := range c.kinds {
			what := fmt.Sprintf("Right %d %q", kind, c.text)
			got, e := digits.Right(kind, c.text)
			hold.Same(t, what, e, c.want)
			hold.Same(t, what, got, false)
		}
	}
}

// wrongSizes: lists that no numbers have as sizes.
var wrongSizes = []struct {
	sizes []int
	want  api.Errno
}{
	{nil, api.ErrCount}, {[]int{}, api.ErrCount}, {slices.Repeat([]int{2}, 11), api.ErrCount},
	{slices.Repeat([]int{1}, 11), api.ErrCount}, {slices.Repeat([]int{2}, 200), api.ErrCount},
	{[]int{1}, api.ErrValue}, {[]int{11}, api.ErrValue}, {[]int{0}, api.ErrValue}, {[]int{-2}, api.ErrValue},
	{[]int{2, 3, 1}, api.ErrValue}, {[]int{2, 11, 2}, api.ErrValue}, {[]int{10, 10, 10, 10, 1}, api.ErrValue},
	{[]int{10, 10, 10, 10, 11}, api.ErrValue}, {[]int{math.MinInt, 2}, api.ErrValue}, {[]int{2, math.MaxInt}, api.ErrValue}, {[]int{1<<32 + 2}, api.ErrValue},
	{[]int{10, 10, 10, 2}, api.ErrLimit}, {[]int{5, 5, 5, 3, 3}, api.ErrLimit}, {slices.Repeat([]int{10}, 10), api.ErrLimit},
	{[]int{2, 2, 2, 2, 2, 2, 2, 2, 2, 3}, api.ErrLimit}, {slices.Repeat([]int{8}, 10), api.ErrLimit}, {[]int{5, 5, 41}, api.ErrValue},
}

// goodSizes: lists of sizes that may be, those with the greatest product among them.
var goodSizes = [][]int{
	{2}, {3}, {9}, {10}, {2, 2}, {2, 3}, {3, 2}, {3, 3}, {10, 10, 10}, {2, 3, 4}, {4, 3, 2}, {5, 2, 7}, {3, 5, 3},
	{8, 8, 8, 2}, {4, 4, 4, 4, 4}, {7, 7, 7}, {2, 2, 2, 2, 2, 2, 2, 2, 2, 2}, {3, 2, 2, 3, 2, 2}, {9, 9, 9}, {10, 2, 10, 5},
}

func TestI3Check(t *testing.T) {
	for _, c := range wrongSizes {
		hold.Same(t, fmt.Sprint("Check ", c.sizes), digits.Check(c.sizes), c.want)
	}
	for _, sizes := range goodSizes {
		hold.Same(t, fmt.Sprint("Check ", sizes), digits.Check(sizes), api.OK)
	}
	for a := 2; a <= 10; a++ {
		for b := 2; b <= 10; b++ {
			for c := 2; c <= 10; c++ {
				for d := 2; d <= 10; d++ {
					want := api.OK
					if a*b*c*d > 1024 {
						want = api.ErrLimit
					}
					hold.Same(t, fmt.Sprint("Check ", a, b, c, d), digits.Check([]int{a, b, c, d}), want)
				}
			}
		}
	}
}

// inOrder are all lists of values, laid behind each other as the document says.
func inOrder(sizes []int) [][]int {
	if len(sizes) == 0 {
		return [][]int{nil}
	}
	further := inOrder(sizes[1:])
	var out [][]int
	for v := range sizes[0] {
		for _, list := range further {
			out = append(out, slices.Concat([]int{v}, list))
		}
		slices.Reverse(further)
	}
	return out
}

func TestI3Gray(t *testing.T) {
	for _, sizes := range goodSizes {
		all := inOrder(sizes)
		for k, want := range all {
			got, e := digits.Gray(sizes, k)
			hold.Same(t, "Gray's error", e, api.OK)
			hold.List(t, fmt.Sprint("Gray ", sizes, k), got, want...)
			place, e := digits.Place(sizes, want)
			hold.Same(t, "Place's error", e, api.OK)
			hold.Same(t, fmt.Sprint("Place ", sizes, want), place, k)
		}
		for _, k := range []int{-1, len(all), len(all) + 1, math.MinInt, math.MaxInt, 1 << 32} {
			got, e := digits.Gray(sizes, k)
			hold.Same(t, fmt.Sprint("Gray ", sizes, k), e, api.ErrPlace)
			hold.List(t, "told beside an error", got)
		}
	}
	got, _ := digits.Gray([]int{2, 3, 4}, 5)
	hold.List(t, "Gray of the document", got, 0, 1, 2)
}

// TestI3GrayByOne: a list and the one behind it differ at one place, by one.
func TestI3GrayByOne(t *testing.T) {
	for _, sizes := range goodSizes {
		before, e := digits.Gray(sizes, 0)
		for k := 1; ; k++ {
			hold.Same(t, "Gray's error", e, api.OK)
			var now []int
			if now, e = digits.Gray(sizes, k); e != api.OK {
				break
			}
			far := 0
			for i := range now {
				far += max(now[i]-before[i], before[i]-now[i])
			}
			hold.Same(t, fmt.Sprint("from ", before, " to ", now), far, 1)
			before = now
		}
	}
}

func TestI3Errors(t *testing.T) {
	for _, c := range wrongSizes {
		what := fmt.Sprint(c.sizes)
		for _, k := range []int{0, -1, math.MaxInt} {
			got, e := digits.Gray(c.sizes, k)
			hold.Same(t, "Gray "+what, e, c.want)
			hold.List(t, "told beside an error", got)
		}
		for _, l := range [][]int{nil, {0}, {99, 99}, slices.Repeat([]int{0}, len(c.sizes))} {
			got, e := digits.Place(c.sizes, l)
			hold.Same(t, "Place "+what, e, c.want)
			hold.Same(t, "told beside an error", got, 0)
		}
	}
	for _, c := range []struct {
		l    []int
		want api.Errno
	}{
		{nil, api.ErrCount}, {[]int{0, 0}, api.ErrCount}, {[]int{0, 0, 0, 0}, api.ErrCount}, {[]int{9, 9}, api.ErrCount}, {[]int{-1, 0, 0, 0}, api.ErrCount},
		{[]int{2, 0, 0}, api.ErrValue}, {[]int{0, 3, 0}, api.ErrValue}, {[]int{0, 0, 4}, api.ErrValue}, {[]int{-1, 0, 0}, api.ErrValue},
		{[]int{1, 2, -1}, api.ErrValue}, {[]int{0, math.MaxInt, 0}, api.ErrValue}, {[]int{0, math.MinInt, 0}, api.ErrValue}, {[]int{1 << 32, 0, 0}, api.ErrValue},
	} {
		got, e := digits.Place([]int{2, 3, 4}, c.l)
		hold.Same(t, fmt.Sprint("Place ", c.l), e, c.want)
		hold.Same(t, "told beside an error", got, 0)
	}
}

// graph: of each list of n - 1 values (as a number to the base q) which values may still stand behind it.
type graph struct {
	q    int
	free [][]int
}

// to is where a value leads from a list.
func (g graph) to(from, value int) int { return (from*g.q + value) % len(g.free) }

// goesOn says whether all that is free can be reached from a list. As many ways lead to each list as from it, but for the two ends, so one way takes them all then.
func (g graph) goesOn(from int) bool {
	seen := make([]int, len(g.free))
	seen[from] = 1
	for ways := []int{from}; len(ways) > 0; ways = ways[1:] {
		for _, v := range g.free[ways[0]] {
			if to := g.to(ways[0], v); seen[to] == 0 {
				seen[to] = 1
				ways = append(ways, to)
			}
		}
	}
	for list, values := range g.free {
		if len(values) > 0 && seen[list] == 0 {
			return false
		}
	}
	return true
}

// leastRing is laid value by value, each the least with which the rest can still be met: from n - 1 noughts on, to which the list comes back at its end.
func leastRing(q, n int) []int {
	lists := 1
	for range n - 1 {
		lists *= q
	}
	g := graph{q: q, free: make([][]int, lists)}
	for i := range g.free {
		g.free[i] = hold.UpTo(q)
	}
	out, at := make([]int, n-1), 0
	for len(out) < lists*q+n-1 {
		values := g.free[at]
		for _, v := range values {
			g.free[at] = slices.DeleteFunc(slices.Clone(values), func(w int) bool { return w == v })
			if g.goesOn(g.to(at, v)) {
				out, at = append(out, v), g.to(at, v)
				break
			}
		}
	}
	return out[:lists*q]
}

func TestI4Ring(t *testing.T) {
	rings := 0
	for q := 2; q <= 10; q++ {
		for n, many := 1, q; many <= api.MaxRing; n, many = n+1, many*q {
			got, e := digits.Ring(q, n)
			hold.Same(t, "Ring's error", e, api.OK)
			hold.List(t, fmt.Sprint("Ring ", q, n), got, leastRing(q, n)...)
			rings++
		}
		_, e := digits.Ring(q, 11)
		hold.Same(t, "Ring's error", e, api.ErrLimit)
	}
	hold.Same(t, "how many rings", rings, 10+6+5+4+3+3+3+3+3)
	got, _ := digits.Ring(2, 4)
	hold.List(t, "Ring 2 4", got, 0, 0, 0, 0, 1, 0, 0, 1, 1, 0, 1, 0, 1, 1, 1, 1)
	got, _ = digits.Ring(3, 2)
	hold.List(t, "Ring 3 2", got, 0, 0, 1, 0, 2, 1, 1, 2, 2)
}

// TestI4RingMeetsAll: all around each list of n values stands once.
func TestI4RingMeetsAll(t *testing.T) {
	for _, c := range [][2]int{{2, 1}, {2, 10}, {3, 6}, {4, 5}, {5, 4}, {7, 3}, {10, 3}, {10, 1}} {
		ring, _ := digits.Ring(c[0], c[1])
		around := slices.Concat(ring, ring[:c[1]-1])
		seen := map[string]int{}
		for i := range ring {
			seen[fmt.Sprint(around[i:i+c[1]])]++
		}
		for list := range hold.Each(c[0], c[1]) {
			hold.Same(t, fmt.Sprint("how often ", list), seen[fmt.Sprint(list)], 1)
		}
		hold.Same(t, "how many lists", len(seen), len(ring))
	}
}

func TestI4RingErrors(t *testing.T) {
	for _, c := range []struct {
		q, n int
		want api.Errno
	}{
		{1, 1, api.ErrCount}, {0, 1, api.ErrCount}, {-2, 2, api.ErrCount}, {11, 1, api.ErrCount}, {11, 99, api.ErrCount},
		{2, 0, api.ErrCount}, {2, -1, api.ErrCount}, {10, math.MinInt, api.ErrCount}, {math.MaxInt, 1, api.ErrCount}, {math.MinInt, 1, api.ErrCount},
		{1<<32 + 2, 1, api.ErrCount}, {1, math.MaxInt, api.ErrCount},
		{2, 11, api.ErrLimit}, {3, 7, api.ErrLimit}, {4, 6, api.ErrLimit}, {5, 5, api.ErrLimit}, {6, 4, api.ErrLimit}, {10, 4, api.ErrLimit},
		{2, 64, api.ErrLimit}, {4, 32, api.ErrLimit}, {8, 64, api.ErrLimit}, {10, 1 << 32, api.ErrLimit}, {2, math.MaxInt, api.ErrLimit},
	} {
		got, e := digits.Ring(c.q, c.n)
		hold.Same(t, fmt.Sprint("Ring ", c.q, " ", c.n), e, c.want)
		hold.List(t, "told beside an error", got)
	}
}

func TestListsAreTheCallers(t *testing.T) {
	var handed hold.Handed
	sizes, list := handed.List(2, 3, 4), handed.List(1, 2, 3)
	digits.Check(sizes)
	digits.Place(sizes, list)
	a, _ := digits.Gray(sizes, 5)
	b, _ := digits.Gray(sizes, 5)
	c, _ := digits.Ring(3, 2)
	d, _ := digits.Ring(3, 2)
	handed.Apart(t, a, b, c, d)
}
