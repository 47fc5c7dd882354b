package graph

import (
	"slices"
	"testing"

	"parley/api"
)

// P17.4: no round.
func TestNoRound(t *testing.T) {
	found(t, 0, nil)
	found(t, 1, nil)
	found(t, 3, edges(0, 1, 1, 2, 0, 2))
	found(t, 3, edges(2, 1, 2, 1, 1, 0))
	found(t, 5, edges(0, 1, 0, 2, 1, 3, 2, 3, 3, 4))
	found(t, 4, edges(0, 1, 2, 1, 2, 3, 0, 3))
}

// P17.4: an edge from a node to itself is a round, and the shortest that can be; of several the first one.
func TestSelf(t *testing.T) {
	found(t, 1, edges(0, 0), 0)
	found(t, 1, edges(0, 0, 0, 0), 0)
	found(t, 3, edges(0, 1, 1, 0, 2, 2, 1, 1), 2)
	found(t, 3, edges(0, 1, 1, 2, 2, 0, 0, 2, 1, 1, 0, 0), 4)
	found(t, 3, edges(1, 2, 2, 2, 0, 0), 1)
}

// P17.4: the fewest edges, whatever their numbers.
func TestFewestEdges(t *testing.T) {
	found(t, 3, edges(0, 1, 1, 2, 2, 0), 0, 1, 2)
	found(t, 5, edges(0, 1, 1, 2, 2, 0, 3, 4, 4, 3), 3, 4)
	found(t, 4, edges(0, 1, 1, 2, 2, 3, 3, 0, 2, 0), 0, 1, 4)
	found(t, 4, edges(0, 1, 1, 2, 2, 3, 3, 0, 3, 2), 2, 4)
	// Rounds that have a node in common, and ways between rounds.
	found(t, 6, edges(0, 1, 1, 2, 2, 3, 3, 0, 0, 4, 4, 5, 5, 0), 4, 5, 6)
	found(t, 8, edges(0, 1, 1, 2, 2, 0, 2, 3, 3, 4, 4, 5, 5, 6, 6, 7, 7, 4), 0, 1, 2)
	found(t, 8, edges(7, 4, 6, 7, 5, 6, 4, 5, 3, 4, 2, 3, 2, 0, 1, 2, 0, 1), 6, 8, 7)
}

// P17.4: the list begins with whichever of its edges makes it least, and goes on along the round.
func TestBegins(t *testing.T) {
	found(t, 3, edges(2, 0, 0, 1, 1, 2), 0, 1, 2)
	found(t, 3, edges(1, 2, 0, 1, 2, 0), 0, 2, 1)
	found(t, 3, edges(0, 1, 2, 0, 1, 2), 0, 2, 1)
	found(t, 4, edges(3, 0, 2, 3, 1, 2, 0, 1), 0, 3, 2, 1)
	found(t, 2, edges(1, 0, 0, 1), 0, 1)
}

// P17.4: of rounds with as few edges the one whose list is least, by the first number in which they differ.
func TestLeastList(t *testing.T) {
	// Apart from one another.
	found(t, 4, edges(2, 3, 0, 1, 1, 0, 3, 2), 0, 3)
	found(t, 4, edges(0, 1, 2, 3, 3, 2, 1, 0), 0, 3)
	found(t, 6, edges(0, 1, 3, 4, 4, 5, 5, 3, 1, 2, 2, 0), 0, 4, 5)
	// The same first edge, and two ways back: the second number tells, or the last one.
	found(t, 4, edges(0, 1, 1, 3, 1, 2, 2, 0, 3, 0), 0, 1, 4)
	found(t, 4, edges(0, 1, 1, 3, 1, 2, 3, 0, 2, 0), 0, 1, 3)
	found(t, 4, edges(1, 2, 2, 0, 2, 3, 3, 1, 0, 1), 0, 1, 4)
	// The last edge of one is less than all of the other one's but the first.
	found(t, 4, edges(0, 1, 3, 0, 1, 2, 2, 0, 1, 3), 0, 2, 3)
	// The least edge of all is on no shortest round.
	found(t, 5, edges(0, 1, 1, 2, 2, 3, 3, 0, 4, 3, 3, 4, 2, 1), 1, 6)
	found(t, 5, edges(0, 1, 1, 2, 2, 3, 3, 4, 4, 0, 3, 1, 2, 0), 0, 1, 6)
	// Two rounds through one node, each with one of two little edges.
	found(t, 5, edges(1, 2, 3, 4, 2, 0, 0, 3, 4, 0, 0, 1), 0, 2, 5)
	found(t, 5, edges(3, 4, 1, 2, 2, 0, 0, 3, 4, 0, 0, 1), 0, 4, 3)
}

// P17.4: edges that stand twice: the first of them is on the round.
func TestTwiceOnRound(t *testing.T) {
	found(t, 2, edges(0, 1, 0, 1, 1, 0, 1, 0), 0, 2)
	found(t, 2, edges(1, 0, 0, 1, 1, 0, 0, 1), 0, 1)
	found(t, 3, edges(0, 1, 0, 1, 0, 1, 2, 0, 1, 2, 2, 0, 1, 2), 0, 4, 3)
}

// isRound tells whether a list of edges' numbers is a round.
func isRound(l []api.Edge, round []int) bool {
	from := map[int]bool{}
	for at, number := range round {
		e := l[number]
		if from[e.From] || e.To != l[round[(at+1)%len(round)]].From {
			return false
		}
		from[e.From] = true
	}
	return len(round) > 0
}

// P17.4: what is answered is a round of the graph, also of graphs with rounds of one length alone.
func TestIsRound(t *testing.T) {
	d := drawn(7)
	for range 500 {
		// Nodes in layers, each edge leading from one to the next: all rounds go through all layers, once or more.
		layers, each := 2+d.below(6), 1+d.below(4)
		var l []api.Edge
		for range 1 + d.below(4*layers*each) {
			layer := d.below(layers)
			l = append(l, api.Edge{From: layer*each + d.below(each), To: (layer+1)%layers*each + d.below(each)})
		}
		l = d.renamed(layers*each, l)
		round, ok, err := Round(layers*each, l...)
		if err != api.OK || ok != isRound(l, round) || len(round)%layers != 0 {
			t.Fatalf("Round of %v answers %v, %v, %v", l, round, ok, err)
		}
		if want := modelShortest(layers*each, l); !slices.Equal(round, want) {
			t.Fatalf("Round of %v answers %v, not %v", l, round, want)
		}
	}
}

// Round in great graphs, their numbers mixed, too: one round of all nodes, and a line; steps of one and two; rounds of many ways; layers in which each node leads to all of the next.
func TestGreatRounds(t *testing.T) {
	const n = 65536
	d := drawn(8)
	// on marks the edges that are on shortest rounds: the first of these is the answer's first.
	const on = api.EdgeTime
	var ring, steps, torus []api.Edge
	for k := range n {
		ring = append(ring, api.Edge{From: k, To: (k + 1) % n, Kind: on})
		steps = append(steps, api.Edge{From: k, To: (k + 1) % n}, api.Edge{From: k, To: (k + 2) % n, Kind: on})
		x, y := k%256, k/256
		torus = append(torus, api.Edge{From: k, To: (x+1)%256 + 256*y, Kind: on}, api.Edge{From: k, To: x + (y+1)%256*256, Kind: on})
	}
	for _, x := range []struct {
		l    []api.Edge
		want int
	}{{ring, n}, {ring[:n-1], 0}, {steps, n / 2}, {torus, 256}} {
		for _, l := range [][]api.Edge{x.l, d.renamed(n, x.l)} {
			round, ok, err := Round(n, l...)
			if err != api.OK || ok != (x.want > 0) || len(round) != x.want {
				t.Fatalf("a round of %d edges, not %d: %v, %v", len(round), x.want, ok, err)
			}
			if ok && (!isRound(l, round) || round[0] != slices.IndexFunc(l, func(e api.Edge) bool { return e.Kind == on })) {
				t.Errorf("%v of %v", few(round), few(l))
			}
		}
	}
	const each = 150
	var layers []api.Edge
	for a := range each {
		for b := range each {
			layers = append(layers, api.Edge{From: a, To: each + b}, api.Edge{From: each + a, To: 2*each + b}, api.Edge{From: 2*each + a, To: b})
		}
	}
	found(t, 3*each, layers, 0, 1, 2)
}
