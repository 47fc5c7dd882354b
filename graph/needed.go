package graph

import "parley/api"

// reduction is which edges of a graph others stand in for. Its nodes are numbered as they stand in an order, so that every edge leads to a later one.
type reduction struct {
	*net
	needless []bool
	near     []stretch // of each node to which nodes of a stretch ways lead
}

// needed is the numbers of the edges that are needed, by an order of the nodes. It asks for a stretch of nodes at a time: a row of all nodes for each node would take too much room.
func (g *net) needed(order []int) []int {
	place := places(order)
	moved := make([]api.Edge, len(g.edges))
	for number, e := range g.edges {
		moved[number] = api.Edge{From: place[e.From], To: place[e.To]}
	}
	r := &reduction{net: &net{n: g.n, edges: moved, out: gather(g.n, moved, outward)}, needless: make([]bool, len(moved)), near: make([]stretch, g.n)}
	r.repeated()
	for start := 0; start < g.n; start += width {
		r.sweep(start, min(start+width, g.n))
	}
	var l []int
	for number, not := range r.needless {
		if !not {
			l = append(l, number)
		}
	}
	return l
}

// repeated finds the edges that are not the first from one node to another one.
func (r *reduction) repeated() {
	last := make([]int, r.n) // of each node the latest one, plus 1, from which an edge to it was found
	for node := range r.n {
		for _, k := range r.out.of(node) {
			r.needless[k.number] = last[k.node] == node+1
			last[k.node] = node + 1
		}
	}
}

// sweep finds those edges into a stretch that are beside a longer way. It goes back from the stretch's end; what edges into an earlier stretch are needless it knows, and leaves them out.
func (r *reduction) sweep(start, end int) {
	for node := end - 1; node >= 0; node-- {
		var one, more stretch // where an edge leads, and where ways of two edges or more do
		for _, k := range r.out.of(node) {
			if k.node >= end || r.needless[k.number] {
				continue
			}
			if more.join(&r.near[k.node]); k.node >= start {
				one.add(k.node - start)
			}
		}
		for _, k := range r.out.of(node) {
			if k.node >= start && k.node < end && more.has(k.node-start) {
				r.needless[k.number] = true
			}
		}
		one.join(&more)
		r.near[node] = one
	}
}
