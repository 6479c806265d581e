package line

import (
	"sync"
	"sync/atomic"

	"syndrome/api"
	"syndrome/reed"
)

// sent: a word on its way to a hand, with its message's number.
type sent struct {
	at   int
	word []int
}

// told: what a hand made of it.
type told struct {
	at  int
	got api.Got
}

// tally: how many errors were mended, and how many messages are lost. Several hands may count at once.
type tally struct{ mended, lost atomic.Int64 }

// count adds what came of one word, and hands it on.
func (t *tally) count(got api.Got) api.Got {
	t.mended.Add(int64(got.Errors))
	if got.Lost {
		t.lost.Add(1)
	}
	return got
}

// mend is what comes of a word.
func mend(q int, xs []int, k int, word []int) api.Got {
	message, errors, ok, _ := reed.Euclid(q, xs, k, word)
	return api.Got{Message: message, Errors: errors, Lost: !ok}
}

// deal has all words mended by so many hands. What they tell is laid by its number, so that nobody sees who was first.
func deal(words [][]int, hands int, mend func(word []int) api.Got) []api.Got {
	out := make(chan sent)
	back := make(chan told, len(words)) // room for all that is told: hands end even if nobody takes it
	var working sync.WaitGroup
	for range hands {
		working.Add(1)
		go func() {
			defer working.Done()
			work(out, back, mend)
		}()
	}
	got := make([]api.Got, len(words))
	for next := 0; next < len(words); {
		select { // while no hand is free for the next word, what was told is laid away
		case out <- sent{next, words[next]}:
			next++
		case t := <-back:
			got[t.at] = t.got
		}
	}
	close(out)
	working.Wait()
	close(back)
	for t := range back {
		got[t.at] = t.got
	}
	return got
}

// work is what one hand does, until no word comes any more.
func work(in <-chan sent, back chan<- told, mend func(word []int) api.Got) {
	for s := range in {
		back <- told{s.at, mend(s.word)}
	}
}
