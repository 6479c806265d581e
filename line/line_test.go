package line_test

import (
	"fmt"
	"math"
	"runtime"
	"slices"
	"sync"
	"testing"
	"time"

	"syndrome/api"
	"syndrome/field"
	"syndrome/hold"
	"syndrome/line"
)

// sending: all that Run is handed, but for the hands.
type sending struct {
	q        int
	xs       []int
	k        int
	messages [][]int
	noise    []api.Noise
}

func (s sending) check() api.Errno { return line.Check(s.q, s.xs, s.k, s.messages, s.noise) }

// outcome: all that Run tells.
type outcome struct {
	got          []api.Got
	mended, lost int
	e            api.Errno
}

func (s sending) run(hands int) outcome {
	var o outcome
	o.got, o.mended, o.lost, o.e = line.Run(s.q, s.xs, s.k, s.messages, s.noise, hands)
	return o
}

// same ends a test, unless both are told alike.
func same(t *testing.T, what string, got, want outcome) {
	t.Helper()
	hold.Same(t, "the error of "+what, got.e, want.e)
	hold.Same(t, "how much is told by "+what, len(got.got), len(want.got))
	for i, g := range got.got {
		hold.List(t, fmt.Sprint("message ", i, " of ", what), g.Message, want.got[i].Message...)
		hold.Same(t, fmt.Sprint("errors of message ", i, " of ", what), g.Errors, want.got[i].Errors)
		hold.Same(t, fmt.Sprint("whether message ", i, " is lost, of ", what), g.Lost, want.got[i].Lost)
	}
	hold.Same(t, "mended by "+what, got.mended, want.mended)
	hold.Same(t, "lost by "+what, got.lost, want.lost)
}

// at is the value of a message at a place: the sum of its numbers, each times a power.
func at(f *field.Field, message []int, x int) int {
	sum := 0
	for i, v := range message {
		sum = f.Add(sum, f.Mul(v, f.Pow(x, i)))
	}
	return sum
}

// expect is what should come of a sending: of each message it looks at each place for what the noise left of it, then holds all messages there are against that.
func expect(s sending) outcome {
	f, _ := field.New(s.q)
	var o outcome
	for number, message := range s.messages {
		var xs, heard []int
		for place, x := range s.xs {
			v, lost := at(f, message, x), false
			for _, n := range s.noise {
				if n.At != number || n.Place != place {
					continue
				}
				if n.Value == -1 {
					lost = true
				} else {
					v = f.Add(v, n.Value)
				}
			}
			if !lost {
				xs, heard = append(xs, x), append(heard, v)
			}
		}
		g := near(f, xs, heard, s.k)
		o.got = append(o.got, g)
		o.mended += g.Errors
		if g.Lost {
			o.lost++
		}
	}
	return o
}

// near is the message near enough to what was heard, found among all.
func near(f *field.Field, xs, heard []int, k int) api.Got {
	for message := range hold.Each(f.Size(), k) {
		wrong := 0
		for i, x := range xs {
			if at(f, message, x) != heard[i] {
				wrong++
			}
		}
		if 2*wrong <= len(xs)-k {
			return api.Got{Message: message, Errors: wrong}
		}
	}
	return api.Got{Lost: true}
}

// drawn is a sending with noise, with up to so many messages that may be.
func drawn(d *hold.Draw, q, most, k int) sending {
	s := sending{q: q, xs: d.Different(q, k+d.Below(q-k+1)), k: k}
	s.messages = d.Matrix(q, 1+d.Below(most), k)
	for range d.Below(4 * len(s.messages)) {
		s.noise = append(s.noise, api.Noise{At: d.Below(len(s.messages)), Place: d.Below(len(s.xs)), Value: d.Below(q+1) - 1})
	}
	return s
}

// plain is a sending of so many messages without noise.
func plain(many int) sending {
	return sending{q: 5, xs: []int{4, 0, 2, 3}, k: 2, messages: (new(hold.Draw)).Matrix(5, many, 2)}
}

// loud is the same with so much noise, all of it at one place.
func loud(many, noise int) sending {
	s := plain(many)
	s.noise = slices.Repeat([]api.Noise{{At: many - 1, Place: 3, Value: 1}}, noise)
	return s
}

var sendings = []struct {
	what string
	s    sending
	want api.Errno
}{
	{"nothing", sending{q: 5, xs: []int{0}, k: 1}, api.OK},
	{"no noise", plain(3), api.OK},
	{"one message a place", sending{q: 2, xs: []int{1}, k: 1, messages: [][]int{{0}, {1}}}, api.OK},
	{"the greatest field", sending{q: 64, xs: hold.UpTo(64), k: 64, messages: [][]int{hold.UpTo(64)}, noise: []api.Noise{{At: 0, Place: 63, Value: 63}}}, api.OK},
	{"as many as may be", loud(200, 200), api.OK},
	{"all of its noise", sending{5, []int{4, 0}, 1, [][]int{{1}, {2}}, []api.Noise{{At: 0, Place: 0, Value: -1}, {At: 1, Place: 1, Value: 4}, {At: 1, Place: 1, Value: 0}, {At: 0, Place: 0, Value: -1}}}, api.OK},

	{"no field", sending{6, nil, 0, make([][]int, 201), nil}, api.ErrField},
	{"no field of 1", sending{1, []int{0}, 1, nil, nil}, api.ErrField},
	{"no field of less", sending{math.MinInt, []int{0}, 1, nil, nil}, api.ErrField},
	{"no places", sending{5, nil, 1, make([][]int, 201), nil}, api.ErrLimit},
	{"65 places", sending{64, append(hold.UpTo(64), 9), 1, nil, nil}, api.ErrLimit},
	{"a place that is none", sending{5, []int{0, 5}, 1, make([][]int, 201), nil}, api.ErrValue},
	{"a place twice", sending{5, []int{1, 1}, 1, make([][]int, 201), nil}, api.ErrTwice},
	{"k is 0", sending{5, []int{1, 0}, 0, make([][]int, 201), nil}, api.ErrCount},
	{"k is 0 as all messages", sending{5, []int{1, 0}, 0, [][]int{{}}, nil}, api.ErrCount},
	{"k is more than places", sending{5, []int{1, 0}, 3, [][]int{{1, 2, 3}}, nil}, api.ErrCount},
	{"k is far below", sending{5, []int{1, 0}, math.MinInt, nil, nil}, api.ErrCount},

	{"201 messages", plain(201), api.ErrLimit},
	{"201 messages, all wrong", sending{5, []int{1, 0}, 2, make([][]int, 201), nil}, api.ErrLimit},
	{"201 noises", loud(1, 201), api.ErrLimit},
	{"201 noises, a wrong message", sending{5, []int{1, 0}, 1, [][]int{{1, 1}}, make([]api.Noise, 201)}, api.ErrLimit},
	{"201 noises, no message", sending{5, []int{1, 0}, 1, nil, make([]api.Noise, 201)}, api.ErrLimit},

	{"a message too short", sending{5, []int{1, 0}, 2, [][]int{{1, 1}, {1}}, nil}, api.ErrCount},
	{"a message too long", sending{5, []int{1, 0}, 1, [][]int{{1}, {1, 0}}, nil}, api.ErrCount},
	{"an empty message", sending{5, []int{1, 0}, 1, [][]int{nil}, nil}, api.ErrCount},
	{"a number that is none", sending{5, []int{1, 0}, 2, [][]int{{1, 5}}, nil}, api.ErrValue},
	{"a number below 0", sending{5, []int{1, 0}, 2, [][]int{{0, 0}, {-1, 0}}, nil}, api.ErrValue},
	{"a number far above", sending{5, []int{1, 0}, 2, [][]int{{0, math.MaxInt}}, nil}, api.ErrValue},
	{"too short ahead of a wrong number", sending{5, []int{1, 0}, 2, [][]int{{1}, {9, 9}}, nil}, api.ErrCount},
	{"a wrong number ahead of too short", sending{5, []int{1, 0}, 2, [][]int{{9, 9}, {1}}, nil}, api.ErrValue},
	{"too short, and a wrong number", sending{5, []int{1, 0}, 2, [][]int{{9}}, nil}, api.ErrCount},
	{"a wrong message ahead of noise", sending{5, []int{1, 0}, 2, [][]int{{0, 1}, {1, 9}}, []api.Noise{{At: 2}}}, api.ErrValue},

	{"noise to no message", sending{5, []int{1, 0}, 1, nil, []api.Noise{{}}}, api.ErrPlace},
	{"noise behind the messages", sending{5, []int{1, 0, 2}, 1, [][]int{{1}, {2}}, []api.Noise{{At: 2}}}, api.ErrPlace},
	{"noise ahead of the messages", sending{5, []int{1, 0}, 1, [][]int{{1}}, []api.Noise{{At: -1}}}, api.ErrPlace},
	{"noise far off", sending{5, []int{1, 0}, 1, [][]int{{1}}, []api.Noise{{At: 1 << 32}}}, api.ErrPlace},
	{"noise behind the places", sending{5, []int{1, 3}, 1, [][]int{{1}, {1}, {1}}, []api.Noise{{Place: 2}}}, api.ErrPlace},
	{"noise at a place by its value", sending{5, []int{1, 3}, 1, [][]int{{1}, {1}, {1}}, []api.Noise{{Place: 3}}}, api.ErrPlace},
	{"noise ahead of the places", sending{5, []int{1, 0}, 1, [][]int{{1}}, []api.Noise{{Place: -1}}}, api.ErrPlace},
	{"noise at a place far off", sending{5, []int{1, 0}, 1, [][]int{{1}}, []api.Noise{{Place: math.MinInt}}}, api.ErrPlace},
	{"noise of no element", sending{5, []int{1, 0}, 1, [][]int{{1}}, []api.Noise{{Value: 4}, {Value: 5}}}, api.ErrValue},
	{"noise below -1", sending{5, []int{1, 0}, 1, [][]int{{1}}, []api.Noise{{Value: -1}, {Value: -2}}}, api.ErrValue},
	{"noise far above", sending{5, []int{1, 0}, 1, [][]int{{1}}, []api.Noise{{Value: math.MaxInt}}}, api.ErrValue},
	{"a wrong place ahead of a wrong value", sending{5, []int{1, 0}, 1, [][]int{{1}}, []api.Noise{{Value: 5, Place: 2}}}, api.ErrPlace},
	{"a wrong number ahead of a wrong value", sending{5, []int{1, 0}, 1, [][]int{{1}}, []api.Noise{{Value: 5, At: 1}}}, api.ErrPlace},
	{"a wrong value, then a wrong place", sending{5, []int{1, 0}, 1, [][]int{{1}}, []api.Noise{{Value: 5}, {Place: 2}}}, api.ErrValue},
	{"a wrong place, then a wrong value", sending{5, []int{1, 0}, 1, [][]int{{1}}, []api.Noise{{Place: 2}, {Value: 5}}}, api.ErrPlace},
}

func TestE1Check(t *testing.T) {
	for _, c := range sendings {
		hold.Same(t, "Check of "+c.what, c.s.check(), c.want)
	}
}

func TestE2Errors(t *testing.T) {
	for _, c := range sendings {
		if c.want != api.OK {
			same(t, c.what, c.s.run(1), outcome{e: c.want})
			same(t, c.what+" by no hands", c.s.run(0), outcome{e: c.want})
			continue
		}
		for _, hands := range []int{0, 9, -1, math.MinInt, math.MaxInt, 1<<32 + 1} {
			same(t, fmt.Sprint(c.what, " by hands ", hands), c.s.run(hands), outcome{e: api.ErrCount})
		}
		for _, hands := range []int{1, 8} {
			hold.Same(t, fmt.Sprint("the error of ", c.what, " by hands ", hands), c.s.run(hands).e, api.OK)
		}
	}
}

func TestE2Nothing(t *testing.T) {
	for hands := 1; hands <= api.MaxHands; hands++ {
		same(t, "nothing", sending{q: 7, xs: []int{3, 1}, k: 2}.run(hands), outcome{})
	}
}

func TestE2Run(t *testing.T) {
	d := hold.Draw(18)
	var mended, lost int
	for _, most := range []struct{ q, k int }{{2, 2}, {3, 3}, {4, 3}, {5, 3}, {7, 2}, {8, 3}, {9, 2}, {11, 2}, {16, 2}, {25, 1}, {64, 1}} {
		for k := 1; k <= most.k; k++ {
			for range 25 {
				s := drawn(&d, most.q, 12, k)
				want := expect(s)
				same(t, fmt.Sprint(s), s.run(1+d.Below(api.MaxHands)), want)
				mended, lost = mended+want.mended, lost+want.lost
			}
		}
	}
	hold.Same(t, "whether some were mended, and some lost", mended > 100 && lost > 100, true)
}

func TestE2ByHand(t *testing.T) {
	s := sending{q: 7, xs: hold.UpTo(6), k: 2, messages: [][]int{{1, 1}, {1, 1}, {0, 0}, {3, 0}}, noise: []api.Noise{
		{At: 1, Place: 4, Value: 1}, {At: 3, Place: 0, Value: 2}, {At: 1, Place: 2, Value: 4}, {At: 3, Place: 5, Value: 2}, {At: 3, Place: 2, Value: 3},
	}}
	same(t, "a line of 7", s.run(2), outcome{got: []api.Got{{Message: []int{1, 1}}, {Message: []int{1, 1}, Errors: 2}, {Message: []int{0, 0}}, {Lost: true}}, mended: 2, lost: 1})
}

// one is a sending of the one message 3 to four places, of which one error is mended, if at most one is lost.
func one(noise ...api.Noise) sending {
	return sending{q: 4, xs: []int{0, 1, 2, 3}, k: 1, messages: [][]int{{3}}, noise: noise}
}

func TestE2NoiseAddsUp(t *testing.T) {
	for what, c := range map[string]struct {
		s    sending
		want api.Got
	}{
		"none":                     {one(), api.Got{Message: []int{3}}},
		"of 0":                     {one(api.Noise{Place: 1}), api.Got{Message: []int{3}}},
		"once":                     {one(api.Noise{Place: 1, Value: 2}), api.Got{Message: []int{3}, Errors: 1}},
		"at one place to another":  {one(api.Noise{Place: 1, Value: 2}, api.Noise{Place: 1, Value: 3}), api.Got{Message: []int{3}, Errors: 1}},
		"and back":                 {one(api.Noise{Place: 1, Value: 2}, api.Noise{Place: 1, Value: 2}), api.Got{Message: []int{3}}},
		"at two places, apart":     {one(api.Noise{Place: 1, Value: 2}, api.Noise{Place: 2, Value: 1}), api.Got{Lost: true}},
		"at three places, alike":   {one(api.Noise{Place: 1, Value: 2}, api.Noise{Place: 2, Value: 2}, api.Noise{Place: 3, Value: 2}), api.Got{Message: []int{1}, Errors: 1}},
		"that takes one away":      {one(api.Noise{Place: 1, Value: -1}), api.Got{Message: []int{3}}},
		"that takes it twice":      {one(api.Noise{Place: 1, Value: -1}, api.Noise{Place: 1, Value: -1}), api.Got{Message: []int{3}}},
		"that takes what is wrong": {one(api.Noise{Place: 1, Value: 2}, api.Noise{Place: 1, Value: -1}), api.Got{Message: []int{3}}},
		"to what is lost":          {one(api.Noise{Place: 1, Value: -1}, api.Noise{Place: 1, Value: 2}), api.Got{Message: []int{3}}},
		"that takes three away":    {one(api.Noise{Place: 1, Value: -1}, api.Noise{Place: 0, Value: -1}, api.Noise{Place: 3, Value: -1}), api.Got{Message: []int{3}}},
		"that takes all away":      {one(api.Noise{Place: 1, Value: -1}, api.Noise{Place: 0, Value: -1}, api.Noise{Place: 3, Value: -1}, api.Noise{Place: 2, Value: -1}), api.Got{Lost: true}},
	} {
		want := outcome{got: []api.Got{c.want}, mended: c.want.Errors}
		if c.want.Lost {
			want.lost = 1
		}
		same(t, "noise "+what, c.s.run(3), want)
	}
}

func TestE2HoweverManyHands(t *testing.T) {
	d := hold.Draw(8)
	for range 6 {
		s := drawn(&d, 16, 50, 2)
		want := s.run(1)
		for hands := 1; hands <= api.MaxHands; hands++ {
			for range 8 {
				same(t, fmt.Sprint("hands ", hands), s.run(hands), want)
			}
		}
	}
}

func TestE2SeveralAtOnce(t *testing.T) {
	d := hold.Draw(4)
	s := drawn(&d, 8, 40, 2)
	want, got := s.run(1), make([]outcome, 12)
	var all sync.WaitGroup
	for i := range got {
		all.Go(func() { got[i] = s.run(1 + i%api.MaxHands) })
	}
	all.Wait()
	for i, o := range got {
		same(t, fmt.Sprint("run ", i, " of several at once"), o, want)
	}
}

func TestE2FullLine(t *testing.T) {
	d := hold.Draw(64)
	s := sending{q: 64, xs: d.Different(64, 64), k: 40, messages: d.Matrix(64, api.MaxSent, 40)}
	want := outcome{got: make([]api.Got, api.MaxSent)}
	for i, m := range s.messages {
		want.got[i] = api.Got{Message: m}
		if at := i * 7 % 13; at < 12 && len(s.noise) < api.MaxSent {
			s.noise = append(s.noise, api.Noise{At: i, Place: 5 * at, Value: 1 + d.Below(63)})
			want.got[i].Errors = 1
			want.mended++
		}
	}
	same(t, "a full line", s.run(api.MaxHands), want)
}

func TestE2HandsEnd(t *testing.T) {
	s, before := loud(50, 20), runtime.NumGoroutine()
	for range 50 {
		s.run(api.MaxHands)
	}
	for range 1000 {
		if runtime.NumGoroutine() <= before {
			return
		}
		time.Sleep(time.Millisecond) // a hand that said that it is done may be on its last step still
	}
	t.Fatalf("%d goroutines, %d at first", runtime.NumGoroutine(), before)
}

func TestListsAreTheCallers(t *testing.T) {
	var handed hold.Handed
	s := sending{q: 5, xs: handed.List(0, 1, 2, 3, 4), k: 2, messages: [][]int{handed.List(1, 2), handed.List(1, 2), handed.List(0, 0), handed.List(4, 4)}}
	s.noise = []api.Noise{{At: 0, Place: 1, Value: 2}, {At: 1, Place: 4, Value: -1}, {At: 9, Place: 9, Value: 9}}
	before := slices.Clone(s.noise)
	s.noise = s.noise[:2]
	hold.Same(t, "Check", s.check(), api.OK)
	first, second := s.run(3), s.run(2)
	var out [][]int
	for _, g := range slices.Concat(first.got, second.got) {
		out = append(out, g.Message)
	}
	hold.Same(t, "whether the noise is as it was", slices.Equal(s.noise[:3], before), true)
	handed.Apart(t, out...)
}
