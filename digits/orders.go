package digits

// product is the product of a list's numbers.
func product(list []int) int {
	out := 1
	for _, v := range list {
		out *= v
	}
	return out
}

// behind: the k-th of as many lists, in the direction in which they stand behind a value, is which one in their own order; and the other way round.
func behind(value, k, many int) int {
	if value%2 == 0 {
		return k
	}
	return many - 1 - k
}

// next: of all words of up to n values that come ahead of whatever they become by being turned around, the one behind a word, in order; empty: there is none. (Those whose length divides n, one behind the other, are the least ring.)
func next(word []int, q, n int) []int {
	out := make([]int, n)
	for i := range out {
		out[i] = word[i%len(word)]
	}
	for len(out) > 0 && out[len(out)-1] == q-1 {
		out = out[:len(out)-1]
	}
	if len(out) > 0 {
		out[len(out)-1]++
	}
	return out
}
