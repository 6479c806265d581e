package line

import (
	"syndrome/api"
	"syndrome/field"
	"syndrome/reed"
)

// checkNoise says whether noise may be, where there are so many messages and places. That there is such a field, reed.Check has said.
func checkNoise(q, messages, places int, noise []api.Noise) api.Errno {
	f, _ := field.New(q)
	for _, n := range noise {
		if n.At < 0 || n.At >= messages || n.Place < 0 || n.Place >= places {
			return api.ErrPlace
		}
		if n.Value != gone && !f.Has(n.Value) {
			return api.ErrValue
		}
	}
	return api.OK
}

// carry is what comes of each message's word at the line's other end. Nothing can be wrong with them: Check has said so.
func carry(q int, xs []int, messages [][]int, noise []api.Noise) [][]int {
	f, _ := field.New(q)
	words := make([][]int, len(messages))
	for i, message := range messages {
		words[i], _ = reed.Encode(q, xs, message)
	}
	for _, n := range noise {
		disturb(f, words[n.At], n)
	}
	return words
}

// disturb does one noise to a word. Nothing can be added to what is gone.
func disturb(f *field.Field, word []int, n api.Noise) {
	if n.Value == gone || word[n.Place] == gone {
		word[n.Place] = gone
		return
	}
	word[n.Place] = f.Add(word[n.Place], n.Value)
}
