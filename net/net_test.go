package net_test

import (
	"fmt"
	"math"
	"slices"
	"testing"

	"syndrome/api"
	"syndrome/field"
	"syndrome/hold"
	"syndrome/matrix"
	"syndrome/net"
)

// far: numbers that are no nodes, elements or counts.
var far = []int{-1, -2, 65, math.MinInt, math.MaxInt, 1 << 32}

// of: the net of so many nodes and of these edges: from, to, from, to, ..
func of(nodes int, ends ...int) api.Net {
	g := api.Net{Nodes: nodes}
	for pair := range slices.Chunk(ends, 2) {
		g.Edges = append(g.Edges, api.Edge{From: pair[0], To: pair[1]})
	}
	return g
}

// alike: a net of two nodes and of so many edges.
func alike(many int) api.Net {
	return api.Net{Nodes: 2, Edges: slices.Repeat([]api.Edge{{From: 0, To: 1}}, many)}
}

// wings: the net of the document's examples.
func wings() api.Net { return of(7, 0, 1, 0, 2, 1, 3, 2, 3, 3, 4, 1, 5, 2, 6, 4, 5, 4, 6) }

// drawn: a net that may be, of no more than so many nodes and edges.
func drawn(d *hold.Draw, nodes, edges int) api.Net {
	g := api.Net{Nodes: 2 + d.Below(nodes-1)}
	for range d.Below(edges + 1) {
		to := 1 + d.Below(g.Nodes-1)
		g.Edges = append(g.Edges, api.Edge{From: d.Below(to), To: to})
	}
	return g
}

// leaving: how many edges lead from a set of nodes (a bit each) to others.
func leaving(g api.Net, set int) int {
	many := 0
	for _, edge := range g.Edges {
		if set>>edge.From&1 == 1 && set>>edge.To&1 == 0 {
			many++
		}
	}
	return many
}

// cuts: all sets of nodes, the source with them and to not, from which the fewest edges lead to others; and how many.
func cuts(g api.Net, to int) (sets []int, fewest int) {
	fewest = len(g.Edges) + 1
	for set := range 1 << g.Nodes {
		if set&1 == 0 || set>>to&1 == 1 {
			continue
		}
		many := leaving(g, set)
		if many < fewest {
			sets, fewest = nil, many
		}
		if many == fewest {
			sets = append(sets, set)
		}
	}
	return sets, fewest
}

// disjoint: how many ways there are at most that share no edge, from the node at to one, and from the source on, of edges that aren't taken: all ways are gone through.
func disjoint(g api.Net, taken []bool, at, to int) int {
	if at == to {
		return 1 + disjoint(g, taken, 0, to)
	}
	most := 0
	for i, edge := range g.Edges {
		if edge.From == at && !taken[i] {
			taken[i] = true
			most = max(most, disjoint(g, taken, edge.To, to))
			taken[i] = false
		}
	}
	return most
}

func flow(t *testing.T, g api.Net, to int) int {
	t.Helper()
	many, e := net.Flow(g, to)
	hold.Same(t, fmt.Sprint("the error of Flow ", g, to), e, api.OK)
	return many
}

// bad: nets that can't be.
var bad = []struct {
	g    api.Net
	want api.Errno
}{
	{api.Net{}, api.ErrLimit}, {of(1), api.ErrLimit}, {of(11), api.ErrLimit}, {of(-1), api.ErrLimit}, {of(math.MaxInt), api.ErrLimit}, {of(math.MinInt), api.ErrLimit}, {of(1 << 32), api.ErrLimit},
	{alike(25), api.ErrLimit}, {alike(99), api.ErrLimit}, {of(1, 0, 1), api.ErrLimit}, {of(11, 10, 0), api.ErrLimit}, {api.Net{Nodes: 2, Edges: make([]api.Edge, 25)}, api.ErrLimit},
	{of(2, 0, 0), api.ErrPlace}, {of(2, 1, 1), api.ErrPlace}, {of(2, 1, 0), api.ErrPlace}, {of(2, 0, 2), api.ErrPlace}, {of(2, -1, 1), api.ErrPlace}, {of(2, -1, 0), api.ErrPlace},
	{of(2, -2, -1), api.ErrPlace}, {of(10, 8, 10), api.ErrPlace}, {of(10, 10, 11), api.ErrPlace}, {of(10, 9, 10), api.ErrPlace}, {of(5, 3, 2), api.ErrPlace}, {of(5, 0, 1, 1, 2, 2, 2), api.ErrPlace},
	{of(5, 4, 3, 0, 1), api.ErrPlace}, {of(3, 0, math.MaxInt), api.ErrPlace}, {of(3, math.MinInt, 1), api.ErrPlace}, {of(3, math.MaxInt, math.MinInt), api.ErrPlace}, {of(3, math.MinInt, math.MaxInt), api.ErrPlace},
	{api.Net{Nodes: 2, Edges: make([]api.Edge, 24)}, api.ErrPlace},
}

func TestN1Check(t *testing.T) {
	for _, c := range bad {
		hold.Same(t, fmt.Sprint("Check ", c.g), net.Check(c.g), c.want)
	}
	for _, g := range []api.Net{of(2), of(10), alike(1), alike(24), wings(), of(10, 0, 9, 8, 9, 0, 1), of(3, 1, 2), of(3, 0, 1, 0, 1, 0, 1)} {
		hold.Same(t, fmt.Sprint("Check ", g), net.Check(g), api.OK)
	}
	for nodes := 2; nodes <= 10; nodes++ {
		for from := -2; from <= 12; from++ {
			for to := -2; to <= 12; to++ {
				want := api.ErrPlace
				if 0 <= from && from < to && to < nodes {
					want = api.OK
				}
				hold.Same(t, fmt.Sprint("Check of ", nodes, from, to), net.Check(of(nodes, 0, 1, from, to)), want)
			}
		}
	}
}

func TestN2Flow(t *testing.T) {
	hold.Same(t, "Flow", flow(t, wings(), 5), 2)
	hold.Same(t, "Flow", flow(t, wings(), 3), 2)
	hold.Same(t, "Flow", flow(t, wings(), 4), 1)
	hold.Same(t, "Flow of no edges", flow(t, of(10), 9), 0)
	hold.Same(t, "Flow of edges from elsewhere", flow(t, of(3, 1, 2, 1, 2), 2), 0)
	for many := range 25 {
		hold.Same(t, "Flow of edges alike", flow(t, alike(many), 1), many)
	}
	// the first way that is found, 0 2 3 5, must give its edge from 2 to 3 back
	hold.Same(t, "Flow by a way that is turned", flow(t, of(6, 0, 2, 2, 3, 3, 5, 0, 1, 1, 3, 2, 4, 4, 5), 5), 2)
	d := hold.Draw(1)
	for range 400 {
		g := drawn(&d, 6, 8)
		for to := 1; to < g.Nodes; to++ {
			hold.Same(t, fmt.Sprint("Flow ", g, to), flow(t, g, to), disjoint(g, make([]bool, len(g.Edges)), 0, to))
		}
	}
	for range 400 {
		g := drawn(&d, api.MaxNodes, api.MaxEdges)
		for to := 1; to < g.Nodes; to++ {
			_, fewest := cuts(g, to)
			hold.Same(t, fmt.Sprint("Flow ", g, to), flow(t, g, to), fewest)
		}
	}
}

func TestN2Cut(t *testing.T) {
	keep := func(g api.Net, to int, want ...int) {
		t.Helper()
		got, e := net.Cut(g, to)
		hold.Same(t, fmt.Sprint("the error of Cut ", g, to), e, api.OK)
		hold.List(t, fmt.Sprint("Cut ", g, to), got, want...)
	}
	keep(wings(), 5, 0)
	keep(wings(), 4, 0, 1, 2, 3, 5, 6)
	keep(of(10), 9, 0)
	keep(of(6, 0, 3, 3, 4, 1, 2, 2, 5), 5, 0, 3, 4)
	keep(alike(24), 1, 0)
	d := hold.Draw(2)
	for range 700 {
		g := drawn(&d, api.MaxNodes, api.MaxEdges)
		to := 1 + d.Below(g.Nodes-1)
		sets, _ := cuts(g, to)
		within := sets[0]
		for _, set := range sets {
			within &= set
		}
		hold.Same(t, "the set within all others is one of them", slices.Contains(sets, within), true)
		var want []int
		for node := range g.Nodes {
			if within>>node&1 == 1 {
				want = append(want, node)
			}
		}
		keep(g, to, want...)
	}
}

func TestN2Errors(t *testing.T) {
	keep := func(g api.Net, to int, want api.Errno) {
		t.Helper()
		many, e := net.Flow(g, to)
		hold.Same(t, fmt.Sprint("Flow ", g, to), e, want)
		hold.Same(t, "told beside an error", many, 0)
		set, e := net.Cut(g, to)
		hold.Same(t, fmt.Sprint("Cut ", g, to), e, want)
		hold.List(t, "told beside an error", set)
	}
	for _, c := range bad {
		for _, to := range append([]int{0, 1}, far...) {
			keep(c.g, to, c.want)
		}
	}
	for _, to := range append([]int{0, 7, 8}, far...) {
		keep(wings(), to, api.ErrPlace)
	}
}

// rank: how many of some vectors don't hang on each other.
func rank(t *testing.T, q int, vectors [][]int) int {
	t.Helper()
	many, e := matrix.Rank(q, vectors)
	hold.Same(t, fmt.Sprint("the error of Rank ", q, vectors), e, api.OK)
	return many
}

// ending: the vectors of the edges that end at a node.
func ending(g api.Net, vectors [][]int, node int) [][]int {
	var out [][]int
	for i, edge := range g.Edges {
		if edge.To == node {
			out = append(out, vectors[i])
		}
	}
	return out
}

// planned: a plan that there must be, held against each word of N3.
func planned(t *testing.T, q int, g api.Net, sinks []int, h int) [][]int {
	t.Helper()
	what := fmt.Sprint("Plan ", q, g, sinks, h)
	vectors, e := net.Plan(q, g, sinks, h)
	hold.Same(t, "the error of "+what, e, api.OK)
	hold.Same(t, "how many vectors of "+what, len(vectors), len(g.Edges))
	hold.Same(t, "a matrix of elements: "+what, matrix.Check(q, vectors), api.OK)
	for i, edge := range g.Edges {
		hold.Same(t, "how many numbers of "+what, len(vectors[i]), h)
		came := ending(g, vectors, edge.From)
		if edge.From != 0 && rank(t, q, append(slices.Clone(came), vectors[i])) > rank(t, q, came) {
			t.Fatalf("%s => %v: vector %d is no sum of those that come", what, vectors, i)
		}
	}
	for _, sink := range sinks {
		hold.Same(t, fmt.Sprint("what comes to ", sink, " by ", what), rank(t, q, ending(g, vectors, sink)), h)
	}
	return vectors
}

func TestN3Plan(t *testing.T) {
	planned(t, 2, wings(), []int{5, 6}, 2)
	planned(t, 2, wings(), []int{6, 5}, 1)
	planned(t, 64, wings(), []int{5, 6, 3}, 2)
	planned(t, 2, alike(24), []int{1}, 24)
	planned(t, 61, alike(24), []int{1}, 7)
	d := hold.Draw(3)
	many := 0
	for range 1500 {
		q, g := []int{2, 3, 4, 5, 7, 8, 9, 64}[d.Below(8)], drawn(&d, api.MaxNodes, api.MaxEdges)
		sinks := d.Different(g.Nodes-1, 1+d.Below(min(q, g.Nodes-1)))
		least := api.MaxEdges
		for i := range sinks {
			sinks[i]++
			least = min(least, flow(t, g, sinks[i]))
		}
		for h := 1; h <= least; h++ {
			planned(t, q, g, sinks, h)
		}
		many += least
		if least == api.MaxEdges {
			continue
		}
		vectors, e := net.Plan(q, g, sinks, least+1)
		hold.Same(t, fmt.Sprint("Plan ", q, g, sinks, least+1), e, api.ErrFail)
		hold.Lists(t, "told beside an error", vectors)
	}
	hold.Same(t, "there are plans", many > 500, true)
}

// TestN3AsManySinksAsElements: nets in which one edge serves many sinks, each of which has another way beside it.
func TestN3AsManySinksAsElements(t *testing.T) {
	for _, q := range []int{2, 3, 4, 5} {
		// from the source edges to q nodes; each two of these have a sink in common, as far as there are nodes
		g, next := api.Net{Nodes: api.MaxNodes}, q+1
		for node := 1; node <= q; node++ {
			g.Edges = append(g.Edges, api.Edge{From: 0, To: node})
		}
		var sinks []int
		for a := 1; a <= q; a++ {
			for b := a + 1; b <= q && next < api.MaxNodes && len(sinks) < q; b++ {
				g.Edges = append(g.Edges, api.Edge{From: a, To: next}, api.Edge{From: b, To: next})
				sinks = append(sinks, next)
				next++
			}
		}
		planned(t, q, g, sinks, 2)
	}
	// one edge, 1 to 2, is all that the sinks share: each gets, besides, one of the source's edges with a vector of its own
	for _, q := range []int{2, 3, 4, 5, 7} {
		g := of(3+q, 0, 1, 0, 1, 1, 2)
		var sinks []int
		for sink := 3; sink < 3+q; sink++ {
			g.Edges = append(g.Edges, api.Edge{From: 2, To: sink}, api.Edge{From: sink % 2, To: sink})
			sinks = append(sinks, sink)
		}
		planned(t, q, g, sinks, 2)
	}
}

// TestN3EdgesOutOfOrder: an edge may stand ahead of those by which its vector comes.
func TestN3EdgesOutOfOrder(t *testing.T) {
	planned(t, 3, of(5, 3, 4, 2, 3, 1, 2, 0, 1), []int{4}, 1)
	g := wings()
	slices.Reverse(g.Edges)
	planned(t, 2, g, []int{5, 6}, 2)
	planned(t, 2, of(4, 2, 3, 1, 3, 1, 2, 0, 2, 0, 1, 0, 1), []int{2, 3}, 2)
}

func TestN3Errors(t *testing.T) {
	keep := func(q int, g api.Net, sinks []int, h int, want api.Errno) {
		t.Helper()
		vectors, e := net.Plan(q, g, sinks, h)
		hold.Same(t, fmt.Sprint("Plan ", q, g, sinks, h), e, want)
		hold.Lists(t, "told beside an error", vectors)
	}
	for _, q := range append([]int{0, 1, 6, 10}, far...) {
		keep(q, wings(), []int{5, 6}, 2, api.ErrField)
		keep(q, of(1), nil, 0, api.ErrField)
	}
	for _, c := range bad {
		keep(2, c.g, []int{1}, 1, c.want)
		keep(2, c.g, nil, 0, c.want)
	}
	for _, h := range append([]int{0, 25}, far...) {
		keep(2, wings(), []int{5, 6}, h, api.ErrCount)
		keep(2, wings(), nil, h, api.ErrCount)
		keep(2, wings(), []int{0, 1, 2, 3}, h, api.ErrCount)
	}
	keep(2, wings(), nil, 1, api.ErrLimit)
	keep(2, wings(), []int{}, 24, api.ErrLimit)
	keep(2, wings(), []int{1, 5, 6}, 1, api.ErrLimit)
	keep(3, wings(), []int{1, 2, 5, 6}, 1, api.ErrLimit)
	keep(2, wings(), []int{0, 0, 0}, 24, api.ErrLimit)
	keep(9, of(10, 0, 9), slices.Repeat([]int{9}, 10), 1, api.ErrLimit)
	for _, sink := range append([]int{0, 7}, far...) {
		keep(2, wings(), []int{sink, 5}, 2, api.ErrPlace)
		keep(2, wings(), []int{5, sink}, 24, api.ErrPlace)
		keep(2, wings(), []int{sink, sink}, 1, api.ErrPlace)
		keep(3, wings(), []int{5, 5, sink}, 1, api.ErrTwice)
		keep(3, wings(), []int{sink, 5, 5}, 1, api.ErrPlace)
	}
	keep(2, wings(), []int{5, 5}, 2, api.ErrTwice)
	keep(4, wings(), []int{5, 6, 4, 5}, 3, api.ErrTwice)
	keep(64, wings(), []int{1, 2, 3, 4, 5, 6, 1}, 24, api.ErrTwice)
	keep(2, wings(), []int{5, 6}, 3, api.ErrFail)
	keep(2, wings(), []int{4, 5}, 2, api.ErrFail)
	keep(2, wings(), []int{5, 4}, 2, api.ErrFail)
	keep(2, of(3), []int{2}, 1, api.ErrFail)
	keep(2, alike(23), []int{1}, 24, api.ErrFail)
}

// product: of a vector and a message.
func product(q int, vector, message []int) int {
	f, _ := field.New(q)
	out := 0
	for i, v := range vector {
		out = f.Add(out, f.Mul(v, message[i]))
	}
	return out
}

// sent: what Send must tell.
func sent(t *testing.T, q int, vectors [][]int, message []int) []int {
	t.Helper()
	got, e := net.Send(q, vectors, message)
	hold.Same(t, fmt.Sprint("the error of Send ", q, vectors, message), e, api.OK)
	hold.Same(t, "how many numbers are carried", len(got), len(vectors))
	for i, vector := range vectors {
		hold.Same(t, fmt.Sprint("Send ", q, vectors, message, " at ", i), got[i], product(q, vector, message))
	}
	return got
}

func TestN4Send(t *testing.T) {
	got := sent(t, 5, [][]int{{1, 2}, {0, 3}, {4, 4}}, []int{3, 4})
	hold.List(t, "Send", got, 1, 2, 3)
	d := hold.Draw(4)
	for range 500 {
		q, h := []int{2, 3, 4, 5, 7, 8, 9, 25, 27, 64}[d.Below(10)], 1+d.Below(8)
		sent(t, q, d.Matrix(q, d.Below(30), h), d.List(q, h))
	}
	sent(t, 64, d.Matrix(64, api.MaxRows, api.MaxLength), d.List(64, api.MaxLength))
	for _, many := range []int{0, 1, 64, 65, 1000} {
		sent(t, 5, nil, make([]int, many)) // where there is no vector, a message has any length
		sent(t, 5, [][]int{}, slices.Repeat([]int{4}, many))
	}
}

func TestN4SendErrors(t *testing.T) {
	keep := func(q int, vectors [][]int, message []int, want api.Errno) {
		t.Helper()
		got, e := net.Send(q, vectors, message)
		hold.Same(t, fmt.Sprint("Send ", q, vectors, message), e, want)
		hold.List(t, "told beside an error", got)
	}
	for _, q := range append([]int{0, 1, 6}, far...) {
		keep(q, nil, nil, api.ErrField)
		keep(q, [][]int{{}}, []int{99}, api.ErrField)
	}
	for _, message := range [][]int{nil, {0}, {9}, {0, 0}, make([]int, 99)} {
		keep(5, make([][]int, 65), message, api.ErrLimit)
		keep(5, [][]int{{}}, message, api.ErrForm)
		keep(5, [][]int{{1}, {1, 2}}, message, api.ErrForm)
		keep(5, [][]int{make([]int, 65)}, message, api.ErrLimit)
		keep(5, [][]int{{1}, {5}}, message, api.ErrValue)
		if len(message) != 2 {
			keep(5, [][]int{{1, 2}, {3, 4}}, message, api.ErrCount)
		}
	}
	keep(5, [][]int{{1, 2}}, []int{9, 9, 9}, api.ErrCount)
	for _, v := range append([]int{5}, far...) {
		keep(5, [][]int{{1, 2}}, []int{v, 0}, api.ErrValue)
		keep(5, [][]int{{0, 0}}, []int{0, v}, api.ErrValue)
		keep(5, nil, []int{0, v, 0}, api.ErrValue)
	}
}

// heard: all messages of which Send would make, on the edges that end at a node, what they carried.
func heard(q int, g api.Net, vectors [][]int, carried []int, at int) [][]int {
	var out [][]int
	for message := range hold.Each(q, len(vectors[0])) {
		wrong := 0
		for i, edge := range g.Edges {
			if edge.To == at && product(q, vectors[i], message) != carried[i] {
				wrong++
			}
		}
		if wrong == 0 {
			out = append(out, message)
		}
	}
	return out
}

func TestN4Hear(t *testing.T) {
	d := hold.Draw(5)
	told := map[int]int{} // how often there were so many messages
	for range 1500 {
		q, g := []int{2, 3, 4, 5}[d.Below(4)], drawn(&d, 5, 9)
		if len(g.Edges) == 0 {
			continue
		}
		h, at := 1+d.Below(3), 1+d.Below(g.Nodes-1)
		vectors, carried := d.Matrix(q, len(g.Edges), h), d.List(q, len(g.Edges))
		if d.Below(3) > 0 {
			carried = sent(t, q, vectors, d.List(q, h))
		}
		all := heard(q, g, vectors, carried, at)
		if len(ending(g, vectors, at)) == 0 {
			all = nil // no such edge
		}
		told[min(len(all), 2)]++
		got, e := net.Hear(q, g, vectors, carried, at)
		if len(all) == 1 {
			hold.Same(t, fmt.Sprint("the error of Hear ", q, g, vectors, carried, at), e, api.OK)
			hold.List(t, fmt.Sprint("Hear ", q, g, vectors, carried, at), got, all[0]...)
			continue
		}
		hold.Same(t, fmt.Sprint("Hear ", q, g, vectors, carried, at), e, api.ErrFail)
		hold.List(t, "told beside an error", got)
	}
	hold.Same(t, "some of each", told[0] > 50 && told[1] > 50 && told[2] > 50, true)
}

// TestN4AsMuchComesToAllAsToEach: by a plan each sink hears each message.
func TestN4AsMuchComesToAllAsToEach(t *testing.T) {
	vectors := planned(t, 2, wings(), []int{5, 6}, 2)
	for message := range hold.Each(2, 2) {
		carried := sent(t, 2, vectors, message)
		for _, at := range []int{5, 6} {
			got, e := net.Hear(2, wings(), vectors, carried, at)
			hold.Same(t, "the error of Hear", e, api.OK)
			hold.List(t, "Hear", got, message...)
		}
	}
	d := hold.Draw(6)
	for range 300 {
		q, g := []int{3, 4, 9, 16}[d.Below(4)], drawn(&d, api.MaxNodes, api.MaxEdges)
		var sinks []int
		least := api.MaxEdges
		for node := 1; node < g.Nodes && len(sinks) < q; node++ {
			if many := flow(t, g, node); many > 0 {
				sinks, least = append(sinks, node), min(least, many)
			}
		}
		if len(sinks) == 0 {
			continue
		}
		vectors, message := planned(t, q, g, sinks, least), d.List(q, least)
		carried := sent(t, q, vectors, message)
		for _, at := range sinks {
			got, e := net.Hear(q, g, vectors, carried, at)
			hold.Same(t, "the error of Hear", e, api.OK)
			hold.List(t, fmt.Sprint("Hear ", q, g, vectors, carried, at), got, message...)
		}
	}
}

func TestN4HearErrors(t *testing.T) {
	keep := func(q int, g api.Net, vectors [][]int, carried []int, at int, want api.Errno) {
		t.Helper()
		got, e := net.Hear(q, g, vectors, carried, at)
		hold.Same(t, fmt.Sprint("Hear ", q, g, vectors, carried, at), e, want)
		hold.List(t, "told beside an error", got)
	}
	g := of(4, 0, 1, 0, 2, 1, 2)
	units := [][]int{{1, 0}, {0, 1}, {1, 0}}
	for _, c := range bad {
		keep(2, c.g, units, []int{0, 0, 0}, 1, c.want)
		keep(6, c.g, [][]int{{}}, nil, 0, c.want)
	}
	for _, at := range append([]int{0, 4}, far...) {
		keep(2, g, units, []int{0, 0, 0}, at, api.ErrPlace)
		keep(6, g, [][]int{{9}}, nil, at, api.ErrPlace)
	}
	for _, carried := range [][]int{nil, {0, 0, 0}, {9, 9, 9}, {0, 0}, make([]int, 99)} {
		for _, q := range append([]int{0, 1, 6}, far...) {
			keep(q, g, units, carried, 2, api.ErrField)
			keep(q, g, nil, carried, 2, api.ErrField)
		}
		keep(2, g, make([][]int, 65), carried, 2, api.ErrLimit)
		keep(2, g, [][]int{{1}, {1, 0}, {1}}, carried, 2, api.ErrForm)
		keep(2, g, [][]int{{1}, {2}}, carried, 2, api.ErrValue)
		keep(2, g, units[:2], carried, 2, api.ErrCount)
		keep(2, g, append(slices.Clone(units), []int{1, 1}), carried, 2, api.ErrCount)
		keep(2, g, nil, carried, 2, api.ErrCount)
		if len(carried) != 3 {
			keep(2, g, units, carried, 2, api.ErrCount)
		}
	}
	for _, v := range append([]int{2}, far...) {
		keep(2, g, units, []int{0, 0, v}, 2, api.ErrValue)
		keep(2, g, units, []int{v, 0, 0}, 2, api.ErrValue) // also on an edge that ends elsewhere
		keep(2, g, units, []int{v, v, v}, 3, api.ErrValue)
		keep(2, g, units, []int{v, v}, 3, api.ErrCount)
	}
	keep(2, g, units, []int{0, 0, 0}, 3, api.ErrFail) // no edge ends there
	keep(2, g, units, []int{0, 0, 0}, 1, api.ErrFail) // more than one message
	keep(2, of(3, 0, 2, 0, 2, 1, 2), units, []int{1, 0, 0}, 2, api.ErrFail)
	keep(2, of(3), nil, nil, 2, api.ErrFail)
	keep(2, of(2, 0, 1), [][]int{{0}}, []int{0}, 1, api.ErrFail)
}

// handedNet: a net with edges behind its list in memory, which no call may read or write.
func handedNet(g api.Net) (handed api.Net, whole []api.Edge) {
	whole = slices.Concat(g.Edges, []api.Edge{{From: 5, To: 6}, {From: -1, To: 99}})
	return api.Net{Nodes: g.Nodes, Edges: whole[:len(g.Edges)]}, whole
}

func TestListsAreTheCallers(t *testing.T) {
	var handed hold.Handed
	g, whole := handedNet(wings())
	before := slices.Clone(whole)
	sinks, message := handed.List(5, 6), handed.List(2, 1)
	var vectors [][]int
	for _, vector := range planned(t, 3, g, []int{5, 6}, 2) {
		vectors = append(vectors, handed.List(vector...))
	}
	carried := handed.List(sent(t, 3, vectors, []int{2, 1})...)
	var out [][]int
	for range 2 {
		hold.Same(t, "Check", net.Check(g), api.OK)
		hold.Same(t, "Flow", flow(t, g, 5), 2)
		cut, _ := net.Cut(g, 4)
		plan := planned(t, 3, g, sinks, 2)
		thin := planned(t, 3, g, sinks[:1], 1) // with edges that no way takes
		told := sent(t, 3, vectors, message)
		got, e := net.Hear(3, g, vectors, carried, 5)
		hold.Same(t, "the error of Hear", e, api.OK)
		hold.List(t, "Hear", got, 2, 1)
		out = append(append(append(out, cut, told, got), plan...), thin...)
	}
	hold.Same(t, "the edges that were handed in, and what stands behind them", slices.Equal(whole, before), true)
	handed.Apart(t, out...)
}
