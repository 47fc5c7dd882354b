package graph

import (
	"container/heap"
	"slices"

	"parley/api"
)

// link is an edge as one of its ends sees it: its number, and the node at its other end.
type link struct {
	number, node int
}

// fan is the links of all nodes, those of one node by their numbers.
type fan struct {
	start []int // where each node's links begin, and, behind those of the last one, where they end
	links []link
}

// gather makes a fan of edges, whose two ends a function tells: the one by which they are gathered first.
func gather(n int, l []api.Edge, ends func(api.Edge) (int, int)) fan {
	f := fan{start: make([]int, n+1), links: make([]link, len(l))}
	for _, e := range l {
		node, _ := ends(e)
		f.start[node+1]++
	}
	for node := range n {
		f.start[node+1] += f.start[node]
	}
	next := slices.Clone(f.start)
	for number, e := range l {
		node, other := ends(e)
		f.links[next[node]] = link{number: number, node: other}
		next[node]++
	}
	return f
}

// outward and inward tell an edge's ends.
func outward(e api.Edge) (int, int) { return e.From, e.To }
func inward(e api.Edge) (int, int)  { return e.To, e.From }

// of is a node's links.
func (f *fan) of(node int) []link { return f.links[f.start[node]:f.start[node+1]] }

// net is a graph whose numbers may be.
type net struct {
	n     int
	edges []api.Edge
	out   fan
}

// may tells whether a graph's numbers may be.
func may(n int, l []api.Edge) bool {
	if n < 0 || n > most {
		return false
	}
	return !slices.ContainsFunc(l, func(e api.Edge) bool { return !among(n, e.From) || !among(n, e.To) })
}

// among tells whether a number is one of so many nodes.
func among(n, node int) bool { return node >= 0 && node < n }

// lay makes a net of a graph, if its numbers may be.
func lay(n int, l []api.Edge) (*net, api.Errno) {
	if !may(n, l) {
		return nil, api.ErrArg
	}
	return &net{n: n, edges: l, out: gather(n, l, outward)}, api.OK
}

// order is all nodes, at each place the least one that may stand there; ErrRound, if some never may.
func (g *net) order() ([]int, api.Errno) {
	waits := make([]int, g.n) // of each node how many edges come from nodes that do not stand yet
	for _, e := range g.edges {
		waits[e.To]++
	}
	var next ready
	for node, count := range waits {
		if count == 0 {
			heap.Push(&next, node)
		}
	}
	var l []int
	for next.Len() > 0 {
		node := heap.Pop(&next).(int)
		l = append(l, node)
		for _, k := range g.out.of(node) {
			if waits[k.node]--; waits[k.node] == 0 {
				heap.Push(&next, k.node)
			}
		}
	}
	if len(l) < g.n {
		return nil, api.ErrRound
	}
	return l, api.OK
}

// depths is how many edges the longest way to each node has, by an order of them.
func (g *net) depths(order []int) []int {
	l := make([]int, g.n)
	for _, node := range order {
		for _, k := range g.out.of(node) {
			l[k.node] = max(l[k.node], l[node]+1)
		}
	}
	return l
}

// places is where each node stands in an order of them all.
func places(order []int) []int {
	place := make([]int, len(order))
	for at, node := range order {
		place[node] = at
	}
	return place
}

// along goes along all ways from a node: the nodes that it comes to, that one first, and the number of the edge by which it came to each of the others. It goes along shorter ways first, and along each node's edges by their numbers: so it comes to a node by the least of the shortest ways.
func (g *net) along(from int) (list, by []int) {
	list, by = []int{from}, make([]int, g.n)
	var there set
	there.add(from)
ways:
	for at := 0; at < len(list); at++ {
		for _, k := range g.out.of(list[at]) {
			if len(list) == g.n {
				break ways
			}
			if !there.has(k.node) {
				there.add(k.node)
				by[k.node] = k.number
				list = append(list, k.node)
			}
		}
	}
	return list, by
}

// way is the least of the shortest ways from a node to one that it leads to; of no edges, if that is the same.
func (g *net) way(from, to int) []int {
	_, by := g.along(from)
	var l []int
	for node := to; node != from; node = g.edges[by[node]].From {
		l = append(l, by[node])
	}
	slices.Reverse(l)
	return l
}
