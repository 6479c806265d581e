package house

import (
	"strconv"
	"strings"

	"syndrome/api"
	"syndrome/code"
	"syndrome/cyclic"
	"syndrome/golay"
	"syndrome/muller"
	"syndrome/weights"
)

// desk: where lines are answered: what is written so far, and the code that lies there.
type desk struct {
	strings.Builder
	some bool // does one lie there?
	lies api.Code
}

// tell writes numbers, with a blank between.
func (d *desk) tell(numbers ...int) {
	for i, v := range numbers {
		if i > 0 {
			d.WriteString(" ")
		}
		d.WriteString(strconv.Itoa(v))
	}
}

// list tells the numbers of a call that went well.
func (d *desk) list(numbers []int, e api.Errno) api.Errno {
	if e == api.OK {
		d.tell(numbers...)
	}
	return e
}

// put lays the code of a call that went well on the desk, and tells what it is.
func (d *desk) put(c api.Code, e api.Errno) api.Errno {
	if e != api.OK {
		return e
	}
	d.some, d.lies = true, c
	d.tell(c.Q, c.N, len(c.Rows))
	return api.OK
}

// asked is the code that lies there.
func (d *desk) asked() (api.Code, api.Errno) {
	if !d.some {
		return api.Code{}, api.ErrFail
	}
	return d.lies, api.OK
}

// change puts what comes of the code that lies there in its place.
func (d *desk) change(to func(c api.Code) (api.Code, api.Errno)) api.Errno {
	c, e := d.asked()
	if e != api.OK {
		return e
	}
	return d.put(to(c))
}

func (d *desk) code(numbers []int, words []string) api.Errno {
	rows, e := readEach(words, readWord)
	if e != api.OK {
		return e
	}
	return d.put(code.Make(api.Code{Q: numbers[0], N: numbers[1], Rows: rows}))
}

func (d *desk) dual([]int, []string) api.Errno { return d.change(code.Dual) }

func (d *desk) extend([]int, []string) api.Errno { return d.change(code.Extend) }

func (d *desk) puncture(numbers []int, _ []string) api.Errno {
	return d.change(func(c api.Code) (api.Code, api.Errno) { return code.Puncture(c, numbers[0]) })
}

func (d *desk) shorten(numbers []int, _ []string) api.Errno {
	return d.change(func(c api.Code) (api.Code, api.Errno) { return code.Shorten(c, numbers[0]) })
}

// golay reads its word as a text: one that is no number is no kind either.
func (d *desk) golay(_ []int, words []string) api.Errno {
	switch words[0] {
	case "2":
		return d.put(golay.Binary(), api.OK)
	case "3":
		return d.put(golay.Ternary(), api.OK)
	}
	return api.ErrKind
}

func (d *desk) muller(numbers []int, _ []string) api.Errno {
	return d.put(muller.Code(numbers[0], numbers[1]))
}

func (d *desk) bch(numbers []int, _ []string) api.Errno {
	return d.put(cyclic.BCH(numbers[0], numbers[1], numbers[2], numbers[3]))
}

func (d *desk) squares(numbers []int, _ []string) api.Errno {
	return d.put(cyclic.Squares(numbers[0]))
}

func (d *desk) weights([]int, []string) api.Errno { return d.list(d.weigh()) }

// weigh: of each weight, how many words of the code that lies there have it.
func (d *desk) weigh() ([]int, api.Errno) {
	c, e := d.asked()
	if e != api.OK {
		return nil, e
	}
	return code.Weights(c)
}

func (d *desk) transform([]int, []string) api.Errno {
	many, e := d.weigh()
	if e != api.OK {
		return e
	}
	return d.list(weights.Dual(d.lies.Q, many))
}

// both reads a word, then asks for the code: what is wrong with the word is told first.
func (d *desk) both(words []string) ([]int, api.Code, api.Errno) {
	w, e := readWord(words[0])
	if e != api.OK {
		return nil, api.Code{}, e
	}
	c, e := d.asked()
	return w, c, e
}

func (d *desk) syndrome(_ []int, words []string) api.Errno {
	w, c, e := d.both(words)
	if e != api.OK {
		return e
	}
	out, e := code.Syndrome(c, w)
	if e != api.OK {
		return e
	}
	d.WriteString("=")
	for _, v := range out {
		d.WriteString(" ")
		d.tell(v)
	}
	return api.OK
}

func (d *desk) nearest(_ []int, words []string) api.Errno {
	w, c, e := d.both(words)
	if e != api.OK {
		return e
	}
	word, apart, e := code.Nearest(c, w)
	return d.list(append(word, apart), e)
}

func (d *desk) print([]int, []string) api.Errno {
	c, e := d.asked()
	if e != api.OK {
		return e
	}
	text, e := code.Print(c)
	if e != api.OK {
		return e
	}
	d.WriteString(strings.ReplaceAll(strings.TrimSuffix(text, "\n"), "\n", " / "))
	return api.OK
}
