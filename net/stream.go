package net

import "syndrome/api"

// none stands for no edge.
const none = -1

// stream: which edges of a net are used by ways from the source to a node that share none, and how many ways these are.
type stream struct {
	net  api.Net
	to   int
	used []bool
	many int
}

// fill is a stream to a node of as many ways as there can be, but no more than most.
func fill(g api.Net, to, most int) *stream {
	s := &stream{net: g, to: to, used: make([]bool, len(g.Edges))}
	for s.many < most && s.more() {
		s.many++
	}
	return s
}

// more makes one way more of the edges that are used; false: there is none.
func (s *stream) more() bool {
	by := s.reached()
	if _, ok := by[s.to]; !ok {
		return false
	}
	for node := s.to; node != 0; {
		edge := by[node]
		node = s.free(edge).From
		s.used[edge] = !s.used[edge]
	}
	return true
}

// free is an edge as one way more can take it. One that is used it takes back: what came over that edge then goes on where the new way came from.
func (s *stream) free(edge int) api.Edge {
	out := s.net.Edges[edge]
	if s.used[edge] {
		out.From, out.To = out.To, out.From
	}
	return out
}

// reached are the nodes to which one way more can lead, each with the edge by which it is reached first.
func (s *stream) reached() map[int]int {
	by, next := map[int]int{0: none}, []int{0}
	for len(next) > 0 {
		node := next[0]
		next = next[1:]
		for i := range s.net.Edges {
			edge := s.free(i)
			if _, was := by[edge.To]; edge.From == node && !was {
				by[edge.To] = i
				next = append(next, edge.To)
			}
		}
	}
	return by
}

// ways tells of each edge that is used of which way it is: 0, 1, 2, ..
func (s *stream) ways() map[int]int {
	of := map[int]int{}
	for way := range s.many {
		for node := 0; node != s.to; {
			edge := s.after(node, of)
			of[edge] = way
			node = s.net.Edges[edge].To
		}
	}
	return of
}

// after is the first edge from a node that is used, but of no way yet. There is one while a way is at the node: as many used edges lead from it as to it.
func (s *stream) after(node int, of map[int]int) int {
	for i, edge := range s.net.Edges {
		if _, taken := of[i]; edge.From == node && s.used[i] && !taken {
			return i
		}
	}
	return none
}
