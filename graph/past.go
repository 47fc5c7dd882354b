package graph

import (
	"cmp"
	"maps"
	"slices"

	"parley/api"
)

// node is a committed attempt of a history, with its number and the addresses that it reads and writes: rising, each once.
type node struct {
	api.Try
	number        uint64
	reads, writes []uint64
}

// past is a history's committed attempts, as their Committed events stand.
type past struct {
	nodes   []node
	writers map[uint64][]int // of each address the nodes that write it: rising, and so by their numbers, too
}

// recall takes a history that can be apart.
func recall(h []api.Event, tries []api.Try) *past {
	p := &past{writers: map[uint64][]int{}}
	for _, t := range tries {
		if t.How == api.Committed {
			p.nodes = append(p.nodes, node{Try: t, number: h[t.Last].Word})
		}
	}
	slices.SortFunc(p.nodes, func(a, b node) int { return cmp.Compare(a.Last, b.Last) })
	for n := range p.nodes {
		p.nodes[n].collect(h)
		for _, addr := range p.nodes[n].writes {
			p.writers[addr] = append(p.writers[addr], n)
		}
	}
	return p
}

// collect finds the addresses of a node's events.
func (n *node) collect(h []api.Event) {
	for _, e := range h[n.First:n.Last] {
		switch {
		case e.Thread != n.Thread:
		case e.Kind == api.Read && !e.Own:
			n.reads = append(n.reads, e.Addr)
		case e.Kind == api.Write:
			n.writes = append(n.writes, e.Addr)
		}
	}
	n.reads, n.writes = rising(n.reads), rising(n.writes)
}

// rising sorts addresses, and leaves each there once.
func rising(l []uint64) []uint64 {
	slices.Sort(l)
	return slices.Compact(l)
}

// tries is the nodes as attempts.
func (p *past) tries() []api.Try {
	var l []api.Try
	for _, n := range p.nodes {
		l = append(l, n.Try)
	}
	return l
}

// edges is all edges, rising by From, then by To, then by Kind.
func (p *past) edges() []api.Edge {
	sights := p.sights()
	rows := make([][]api.Edge, len(p.nodes))
	for from := range p.nodes {
		own := 0
		for own < len(sights) && sights[own].From == from {
			own++
		}
		rows[from] = p.row(from, sights[:own])
		sights = sights[own:]
	}
	return slices.Concat(rows...)
}

// row is the edges from a node, those of reads being known. Of time and of writes there may be one to every other node: they are told as they come.
func (p *past) row(from int, sights []api.Edge) []api.Edge {
	var l []api.Edge
	writes := p.overwriters(from)
	for to := range p.nodes {
		if p.nodes[from].Last < p.nodes[to].First {
			l = append(l, api.Edge{From: from, To: to, Kind: api.EdgeTime})
		}
		if writes[to/width].has(to % width) {
			l = append(l, api.Edge{From: from, To: to, Kind: api.EdgeWrite})
		}
		for len(sights) > 0 && sights[0].To == to {
			l = append(l, sights[0])
			sights = sights[1:]
		}
	}
	return l
}

// overwriters tells which nodes of greater numbers write an address that a node writes.
func (p *past) overwriters(from int) []stretch {
	there := make([]stretch, len(p.nodes)/width+1)
	for _, addr := range p.nodes[from].writes {
		l := p.writers[addr]
		at, _ := slices.BinarySearch(l, from)
		for _, to := range l[at+1:] {
			there[to/width].add(to % width)
		}
	}
	return there
}

// sights is the edges that reads make, rising: from whom a node has seen a word, and who has written the next one. Several addresses may make one edge.
func (p *past) sights() []api.Edge {
	edges := map[api.Edge]struct{}{}
	for reader, n := range p.nodes {
		for _, addr := range n.reads {
			l := p.writers[addr]
			above, _ := slices.BinarySearchFunc(l, n.Snapshot/2+1, func(writer int, number uint64) int { return cmp.Compare(p.nodes[writer].number, number) })
			if above > 0 {
				edges[api.Edge{From: l[above-1], To: reader, Kind: api.EdgeSeen}] = struct{}{}
			}
			if above < len(l) && l[above] == reader {
				above++
			}
			if above < len(l) {
				edges[api.Edge{From: reader, To: l[above], Kind: api.EdgeUnseen}] = struct{}{}
			}
		}
	}
	return slices.SortedFunc(maps.Keys(edges), func(a, b api.Edge) int {
		return cmp.Or(cmp.Compare(a.From, b.From), cmp.Compare(a.To, b.To), cmp.Compare(a.Kind, b.Kind))
	})
}
