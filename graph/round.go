package graph

import "math"

// nowhere is how far a node is that a walk has not come to.
const nowhere = -1

// hunt is the search for the shortest rounds. A node through which all of them were looked for is taken out, and with it those that no round goes through then.
type hunt struct {
	*net
	in              fan
	gone            set
	inLeft, outLeft []int // how many edges lead into and out of each node, without those from and to nodes that are gone
	far, low        []int // in a walk: how many edges a node is away, and the least edge's number on all ways to it that are so short
	fewest, least   int   // how many edges the shortest rounds have so far, and the least edge's number of them all
}

// round is the least list of a shortest round; none, if there is no round. It begins with the least edge of all shortest rounds; the rest is a way back from its To to its From, and each one that is as short makes a round with it: were a node there twice, there would be a shorter round.
func (g *net) round() []int {
	h := &hunt{net: g, in: gather(g.n, g.edges, inward), fewest: math.MaxInt, least: math.MaxInt}
	h.count()
	for node := range g.n {
		h.search(node)
	}
	if h.fewest == math.MaxInt {
		return nil
	}
	first := g.edges[h.least]
	return append([]int{h.least}, g.way(first.To, first.From)...)
}

// count counts all nodes' edges, and takes out the nodes that have none on one side.
func (h *hunt) count() {
	h.inLeft, h.outLeft = make([]int, h.n), make([]int, h.n)
	h.far, h.low = make([]int, h.n), make([]int, h.n)
	for node := range h.n {
		h.inLeft[node], h.outLeft[node] = len(h.in.of(node)), len(h.out.of(node))
		h.far[node] = nowhere
	}
	for node := range h.n {
		if h.inLeft[node] == 0 || h.outLeft[node] == 0 {
			h.take(node)
		}
	}
}

// search looks for the rounds through a node and takes it out, then those behind it, and so on: nodes that are near one another, taken out together, soon leave no round.
func (h *hunt) search(node int) {
	list := []int{node}
	for at := 0; at < len(list); at++ {
		if h.gone.has(list[at]) {
			continue
		}
		h.walk(list[at])
		h.take(list[at])
		for _, k := range h.out.of(list[at]) {
			list = append(list, k.node)
		}
	}
}

// take takes a node out, and, one by one, those into which or out of which no edge is left then.
func (h *hunt) take(node int) {
	var list []int
	leave := func(node int) {
		if !h.gone.has(node) {
			h.gone.add(node)
			list = append(list, node)
		}
	}
	leave(node)
	for at := 0; at < len(list); at++ {
		for _, k := range h.out.of(list[at]) {
			if h.inLeft[k.node]--; h.inLeft[k.node] == 0 {
				leave(k.node)
			}
		}
		for _, k := range h.in.of(list[at]) {
			if h.outLeft[k.node]--; h.outLeft[k.node] == 0 {
				leave(k.node)
			}
		}
	}
}

// walk looks for the shortest rounds through a node, by nodes that are not gone, as far as they may be no longer than those that were found.
func (h *hunt) walk(start int) {
	h.far[start], h.low[start] = 0, math.MaxInt
	list, limit := []int{start}, h.fewest
ways:
	for at := 0; at < len(list); at++ {
		node := list[at]
		far, low := h.far[node]+1, h.low[node]
		for _, k := range h.out.of(node) {
			if far >= limit { // the next node's edge back would be one too many
				break ways
			}
			switch {
			case h.gone.has(k.node):
			case k.node == start:
				limit = far
			case h.far[k.node] == nowhere:
				h.far[k.node], h.low[k.node] = far, min(low, k.number)
				list = append(list, k.node)
			case h.far[k.node] == far:
				h.low[k.node] = min(h.low[k.node], low, k.number)
			}
		}
	}
	h.note(start)
	for _, node := range list {
		h.far[node] = nowhere
	}
}

// note takes down the shortest of the rounds that an edge back to a walk's first node makes.
func (h *hunt) note(start int) {
	for _, k := range h.in.of(start) {
		if h.far[k.node] == nowhere {
			continue
		}
		edges, low := h.far[k.node]+1, min(h.low[k.node], k.number)
		if edges < h.fewest || edges == h.fewest && low < h.least {
			h.fewest, h.least = edges, low
		}
	}
}
