package house_test

import (
	"fmt"
	"regexp"
	"strconv"
	"strings"
	"testing"

	"syndrome/api"
	"syndrome/code"
	"syndrome/cyclic"
	"syndrome/digits"
	"syndrome/field"
	"syndrome/gap"
	"syndrome/golay"
	"syndrome/hold"
	"syndrome/house"
	"syndrome/muller"
	"syndrome/polar"
	"syndrome/reed"
	"syndrome/weights"
)

// counted: lines whose first word is one of the table's, with as many words behind it as stand there.
var counted = regexp.MustCompile(`^((code|reed|gray)( .*)?|dual|extend|weights|transform|print|(field|puncture|shorten|squares|golay|syndrome|nearest) [^ ]*|(muller|polar|sign|ring)( [^ ]*){2}|(bounds|mend)( [^ ]*){3}|bch( [^ ]*){4})$`)

// cut: lines that end ahead of the dots, with nothing wrong up to there.
var cut = shaped(`(code|reed)( N)?|gray`)

// read: lines of which each number is one, and each WORD.
var read = shaped(`code N N( W)*|dual|extend|(puncture|shorten|squares|field) N|golay .*|(muller|ring) N N|bch N N N N|weights|transform|print|(syndrome|nearest) W|bounds N N N|reed N N( (N|-))*|polar N W|mend N N W|sign N .*|gray N( N)*`)

// shaped looks for lines of a shape, in which N stands for a number, and W for a WORD.
func shaped(shape string) *regexp.Regexp {
	shape = strings.ReplaceAll(strings.ReplaceAll(shape, "N", `(0|[1-9][0-9]{0,5})`), "W", `[0-9]*`)
	return regexp.MustCompile(`^(` + shape + `)$`)
}

// keeper: what a desk should have on it.
type keeper struct{ codes []api.Code }

// told are numbers with blanks between.
func told(list ...int) string { return strings.Trim(fmt.Sprint(list), "[]") }

// either is what is told, or an error.
func either(text string, e api.Errno) string {
	if e != api.OK {
		return fmt.Sprint("error ", int(e))
	}
	return text
}

func (k *keeper) put(c api.Code, e api.Errno) string {
	if e == api.OK {
		k.codes = append(k.codes, c)
	}
	return either(told(c.Q, c.N, len(c.Rows)), e)
}

// expect is what a line should be answered by.
func (k *keeper) expect(line string) string {
	words := strings.Split(line, " ")
	name := words[0]
	switch {
	case !counted.MatchString(line):
		return "bad"
	case cut.MatchString(line):
		return either("", api.ErrShort)
	case !read.MatchString(line):
		return either("", api.ErrWord)
	case strings.Contains(" dual extend puncture shorten weights transform syndrome nearest print ", " "+name+" "):
		if len(k.codes) == 0 {
			return either("", api.ErrFail)
		}
		return k.ofCode(name, k.codes[len(k.codes)-1], words[1:])
	case strings.Contains(" code golay muller bch squares ", " "+name+" "):
		return k.codeOf(name, words[1:])
	}
	return ofNumbers(name, words[1:])
}

// numbers are words as numbers; those that are none are -1.
func numbers(words []string) (out []int) {
	for _, word := range words {
		v, e := strconv.Atoi(word)
		if e != nil {
			v = -1
		}
		out = append(out, v)
	}
	return out
}

func single(word string) []int { return numbers(strings.Split(word, "")) }

func (k *keeper) codeOf(name string, words []string) string {
	n := numbers(words)
	switch name {
	case "code":
		c := api.Code{Q: n[0], N: n[1]}
		for _, word := range words[2:] {
			c.Rows = append(c.Rows, single(word))
		}
		return k.put(code.Make(c))
	case "muller":
		return k.put(muller.Code(n[0], n[1]))
	case "bch":
		return k.put(cyclic.BCH(n[0], n[1], n[2], n[3]))
	case "squares":
		return k.put(cyclic.Squares(n[0]))
	}
	switch words[0] {
	case "2":
		return k.put(golay.Binary(), api.OK)
	case "3":
		return k.put(golay.Ternary(), api.OK)
	}
	return either("", api.ErrKind)
}

func (k *keeper) ofCode(name string, c api.Code, words []string) string {
	many, wrong := code.Weights(c)
	switch name {
	case "dual":
		return k.put(code.Dual(c))
	case "extend":
		return k.put(code.Extend(c))
	case "puncture":
		return k.put(code.Puncture(c, numbers(words)[0]))
	case "shorten":
		return k.put(code.Shorten(c, numbers(words)[0]))
	case "weights":
		return either(told(many...), wrong)
	case "transform":
		if wrong != api.OK {
			return either("", wrong)
		}
		dual, e := weights.Dual(c.Q, many)
		return either(told(dual...), e)
	case "syndrome":
		s, e := code.Syndrome(c, single(words[0]))
		return either(strings.TrimSpace("= "+told(s...)), e)
	case "nearest":
		w, apart, e := code.Nearest(c, single(words[0]))
		return either(told(append(w, apart)...), e)
	}
	text, e := code.Print(c)
	return either(strings.Join(strings.Split(strings.TrimSpace(text), "\n"), " / "), e)
}

func ofNumbers(name string, words []string) string {
	n := numbers(words)
	switch name {
	case "field":
		f, e := field.New(n[0])
		if e != api.OK {
			return either("", e)
		}
		return told(f.Char(), f.Degree(), f.Gen()) + " " + told(f.Poly()...)
	case "bounds":
		a, e := weights.Hamming(n[0], n[1], n[2])
		b, _ := weights.Singleton(n[0], n[1], n[2])
		c, _ := weights.Plotkin(n[0], n[1], n[2])
		d, _ := weights.Varshamov(n[0], n[1], n[2])
		return either(told(a, b, c, d), e)
	case "reed":
		message, errors, ok, e := reed.Euclid(n[0], hold.UpTo(len(n)-2), n[1], n[2:])
		if !ok {
			return either("lost", e)
		}
		return told(errors) + " " + told(message...)
	case "polar":
		w, e := polar.Encode(n[0], single(words[1]))
		return either(told(w...), e)
	case "mend":
		w, ok, e := gap.Mend(n[0], n[1], single(words[2]))
		if !ok {
			return either("none", e)
		}
		return told(w...)
	case "sign":
		return either(digits.Sign(n[0], words[1]))
	case "ring":
		l, e := digits.Ring(n[0], n[1])
		return either(told(l...), e)
	}
	l, e := digits.Gray(n[1:], n[0])
	return either(told(l...), e)
}

// names of all kinds of lines.
var names = strings.Fields("field code dual extend puncture shorten golay muller bch squares weights transform syndrome nearest print bounds reed polar mend sign ring gray")

// drawnLine is a line, often one that is right.
func drawnLine(d *hold.Draw, k keeper) string {
	name := names[d.Below(len(names))]
	q := []int{2, 2, 2, 3, 4, 5, 7, 8, 9, 64, 6}[d.Below(11)]
	n := 1 + d.Below(9)
	words := []string{name}
	add := func(n int) { words = append(words, strconv.Itoa(n)) }
	word := func(q, many int) {
		words = append(words, strings.ReplaceAll(told(d.List(min(q, 10), many)...), " ", ""))
	}
	switch name {
	case "field":
		add(d.Below(70))
	case "code":
		add(q)
		add(n)
		for range d.Below(5) {
			word(q, n)
		}
	case "puncture", "shorten":
		add(d.Below(8))
	case "golay":
		add(1 + d.Below(4))
	case "muller":
		add(d.Below(5))
		add(d.Below(7))
	case "bch":
		add(q)
		add([]int{1, 3, 5, 7, 9, 15, 21, 63, 8, 65}[d.Below(10)])
		add(d.Below(4))
		add(d.Below(6))
	case "squares":
		add([]int{7, 17, 31, 23, 9, 5, 2, 71}[d.Below(8)])
	case "syndrome", "nearest":
		if many := len(k.codes); many > 0 && d.Below(4) > 0 {
			q, n = k.codes[many-1].Q, k.codes[many-1].N
		}
		word(q, n)
	case "bounds":
		add(q)
		add(n)
		add(d.Below(10))
	case "reed":
		add(q)
		add(d.Below(4))
		for range d.Below(9) {
			words = append(words, []string{"-", strconv.Itoa(d.Below(q)), strconv.Itoa(d.Below(q)), "1"}[d.Below(4)])
		}
	case "polar":
		add(d.Below(7))
		word(2+d.Below(20)/19, d.Below(6))
	case "mend":
		add(n)
		add(d.Below(n + 1))
		word(2, max(0, n-2+d.Below(5)))
	case "sign":
		add(d.Below(7))
		word(10, []int{9, 12, 1 + d.Below(66)}[d.Below(3)])
	case "ring":
		add(1 + d.Below(11))
		add(d.Below(5))
	case "gray":
		add(d.Below(40))
		for range d.Below(4) {
			add(2 + d.Below(5))
		}
	}
	return spoiled(d, words)
}

// spoiled are a line's words, at times with one that is missing, added or wrong.
func spoiled(d *hold.Draw, words []string) string {
	at := d.Below(len(words))
	switch d.Below(24) {
	case 0:
		words = append(words[:at:at], words[at+1:]...)
	case 1:
		words = append(words, []string{"", "1", "x", "-"}[d.Below(4)])
	case 2, 3:
		words[at] = []string{"", "00", "x", "-", "07", "999999", "1000000", "1x", "\xff", "0"}[d.Below(10)]
	case 4:
		words = words[:at]
	}
	return strings.Join(words, " ")
}

// TestQ1Drawn: lines one behind the other, against what the layers' calls tell.
func TestQ1Drawn(t *testing.T) {
	d := hold.Draw(19)
	met := map[string]int{}
	for range 1500 {
		var k keeper
		var all []said
		for range 1 + d.Below(25) {
			line := drawnLine(&d, k)
			s := said{line, k.expect(line)}
			if all = append(all, s); strings.HasPrefix(s.want, "error") || strings.HasPrefix(s.want, "bad") {
				met[s.want]++
			} else {
				met[strings.Split(line, " ")[0]]++
			}
		}
		if all[len(all)-1].line == "" { // without a newline behind it there would be no such line
			all = append(all, said{"print ", "bad"})
		}
		talk(t, all...)
	}
	for _, name := range names {
		hold.Same(t, "whether enough lines are right that begin with "+name, met[name] > 50, true)
	}
	hold.Same(t, "whether enough are bad", met["bad"] > 100, true)
	for _, e := range []api.Errno{api.ErrField, api.ErrValue, api.ErrForm, api.ErrLimit, api.ErrCount, api.ErrFail, api.ErrPlace, api.ErrWord, api.ErrShort, api.ErrKind} {
		hold.Same(t, "whether enough are of "+errorOf(e), met[errorOf(e)] > 15, true)
	}
}

// TestQ1AnyText: whatever the text is, each of its lines is answered by one.
func TestQ1AnyText(t *testing.T) {
	d := hold.Draw(1900)
	signs := "  \n\n0123456789-x/\x00\xff\u0661abcdeefghiklmnoprstuwy"
	for range 3000 {
		var text strings.Builder
		for range d.Below(60) {
			if d.Below(3) == 0 {
				text.WriteString(drawnLine(&d, keeper{}))
			}
			at := d.Below(len(signs))
			text.WriteString(signs[at : at+1])
		}
		if text.Len() > api.MaxText {
			continue
		}
		var k keeper
		want := ""
		for _, line := range strings.SplitAfter(text.String(), "\n") {
			if line != "" {
				want += k.expect(strings.TrimSuffix(line, "\n")) + "\n"
			}
		}
		hold.Same(t, fmt.Sprintf("Session of %q", text.String()), house.Session(text.String()), want)
	}
}
