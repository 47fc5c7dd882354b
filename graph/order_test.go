package graph

import (
	"math"
	"slices"
	"testing"

	"parley/api"
)

// P17.3: graphs without edges, with some, with edges that stand twice: at each place the least node that may stand there.
func TestOrder(t *testing.T) {
	ordered(t, 0, nil)
	ordered(t, 1, nil, 0)
	ordered(t, 5, nil, 0, 1, 2, 3, 4)
	ordered(t, 5, []api.Edge{}, 0, 1, 2, 3, 4)
	ordered(t, 2, edges(1, 0), 1, 0)
	ordered(t, 2, edges(1, 0, 1, 0, 1, 0), 1, 0)
	ordered(t, 2, edges(0, 1, 0, 1), 0, 1)
	// The least that may stand there, not the one that waited longest, nor the nearest to the last one.
	ordered(t, 4, edges(3, 0), 1, 2, 3, 0)
	ordered(t, 5, edges(0, 4, 4, 1), 0, 2, 3, 4, 1)
	ordered(t, 6, edges(5, 0, 4, 1, 3, 2), 3, 2, 4, 1, 5, 0)
	ordered(t, 6, edges(2, 1, 1, 0, 5, 3, 4, 3), 2, 1, 0, 4, 5, 3)
	// A node that waits for several, one of them by edges that stand twice.
	ordered(t, 4, edges(1, 0, 2, 0, 1, 0, 3, 0, 3, 2), 1, 3, 2, 0)
	ordered(t, 5, edges(4, 3, 3, 2, 2, 1, 1, 0), 4, 3, 2, 1, 0)
}

// P17.3: an edge from a node to itself, and longer rounds, wherever they are.
func TestOrderOfRounds(t *testing.T) {
	for _, x := range []struct {
		n int
		l []api.Edge
	}{
		{1, edges(0, 0)}, {3, edges(2, 2)}, {3, edges(0, 1, 1, 1, 1, 2)}, {2, edges(0, 1, 1, 0)}, {3, edges(0, 1, 1, 2, 2, 0)}, {3, edges(0, 1, 0, 1, 1, 2, 2, 1)},
		{5, edges(0, 1, 1, 2, 2, 3, 3, 1, 3, 4)}, {6, edges(0, 1, 2, 3, 4, 5, 5, 4)}, {4, edges(3, 2, 2, 1, 1, 0, 0, 3)},
	} {
		inRound(t, x.n, x.l)
	}
}

// P17.7: right orders and wrong ones.
func TestKeeps(t *testing.T) {
	l := edges(1, 0, 1, 2, 1, 0)
	for _, x := range []struct {
		n     int
		order []int
		l     []api.Edge
		want  bool
	}{
		{0, nil, nil, true}, {0, []int{}, nil, true}, {0, []int{0}, nil, false}, {0, nil, edges(0, 0), false},
		{1, []int{0}, nil, true}, {1, nil, nil, false}, {1, []int{1}, nil, false}, {1, []int{0, 0}, nil, false}, {1, []int{0}, edges(0, 0), false},
		{3, []int{2, 1, 0}, nil, true}, {3, []int{0, 1, 2}, nil, true}, {3, []int{1, 0, 2}, l, true}, {3, []int{1, 2, 0}, l, true},
		// A node is missing, stands twice, or is none.
		{3, []int{1, 0}, l, false}, {3, []int{1, 2}, l, false}, {3, nil, l, false}, {3, []int{1, 0, 0}, l, false}, {3, []int{1, 1, 0}, l, false}, {3, []int{1, 0, 2, 2}, l, false}, {3, []int{1, 0, 2, 3}, l, false}, {3, []int{2, 2, 2}, nil, false},
		{3, []int{1, 0, 3}, l, false}, {3, []int{1, 0, -1}, l, false}, {3, []int{1, 0, math.MaxInt}, nil, false}, {3, []int{math.MinInt, 1, 0}, nil, false}, {3, []int{1, 0, 65536 + 2}, nil, false},
		// An edge the wrong way round, the last one too.
		{3, []int{0, 1, 2}, l, false}, {3, []int{2, 1, 0}, l, false}, {3, []int{0, 2, 1}, l, false}, {3, []int{0, 1, 2}, edges(0, 1, 1, 2, 2, 0), false}, {3, []int{0, 1, 2}, edges(0, 1, 1, 2, 2, 2), false},
		{3, []int{0, 1, 2}, edges(0, 1, 1, 2, 0, 2), true}, {3, []int{0, 1, 2}, edges(2, 0), false},
		// Numbers that may not be.
		{-1, nil, nil, false}, {math.MinInt, nil, nil, false}, {65537, nil, nil, false}, {math.MaxInt, []int{0}, nil, false},
		{2, []int{0, 1}, edges(0, 2), false}, {2, []int{0, 1}, edges(-1, 1), false}, {2, []int{0, 1}, edges(0, 1, 0, math.MaxInt), false},
	} {
		if got := Keeps(x.n, x.order, x.l...); got != x.want {
			t.Errorf("Keeps of %d, %v, %v is %v", x.n, x.order, x.l, got)
		}
	}
	all := make([]int, 65537)
	for n := range all {
		all[n] = len(all) - 1 - n
	}
	if Keeps(65537, all) || Keeps(65536, all) || !Keeps(65536, all[1:]) || !Keeps(65536, all[1:], edges(65535, 0, 1, 0)...) || Keeps(65536, all[1:], edges(65535, 0, 0, 1)...) {
		t.Error("orders of as many nodes as may be")
	}
}

// P17.7: all orders, and all lists of nodes that are none, of small graphs against the model.
func TestKeepsOfAllLists(t *testing.T) {
	d := drawn(4)
	for range 300 {
		n := d.below(5)
		var l []api.Edge
		if n > 0 {
			l = d.graph(n, d.below(5))
		}
		for range 30 {
			order := d.shuffled(n)
			if n > 0 && d.below(4) == 0 {
				order[d.below(n)] = d.below(n+2) - 1
			}
			if d.below(8) == 0 {
				order = append(order, d.below(n+1))
			}
			want := modelKeeps(n, order, l)
			if got := Keeps(n, order, l...); got != want {
				t.Fatalf("Keeps of %d, %v, %v is %v", n, order, l, got)
			}
		}
	}
}

// small tells lists of edges of a few nodes: all lists up to some length, and all sets of edges without those from a node to itself, in some order.
func small(yield func(n int, l []api.Edge) bool) {
	d := drawn(5)
	lists := func(n, most int) bool {
		all := pairs(n, true)
		var grow func(l []api.Edge) bool
		grow = func(l []api.Edge) bool {
			if !yield(n, l) {
				return false
			}
			for _, e := range all {
				if len(l) < most && !grow(append(slices.Clip(l), e)) {
					return false
				}
			}
			return true
		}
		return grow(nil)
	}
	if !lists(0, 0) || !lists(1, 3) || !lists(2, 5) || !lists(3, 4) || !lists(4, 3) {
		return
	}
	for n := 3; n <= 4; n++ {
		all := pairs(n, false)
		for bits := range 1 << len(all) {
			var l []api.Edge
			for k, e := range all {
				if bits>>k&1 == 1 {
					l = append(l, e)
				}
			}
			mixed := make([]api.Edge, len(l))
			for k, at := range d.shuffled(len(l)) {
				mixed[at] = l[k]
			}
			if !yield(n, mixed) {
				return
			}
		}
	}
}

// pairs is an edge from each node to each one.
func pairs(n int, self bool) []api.Edge {
	var l []api.Edge
	for a := range n {
		for b := range n {
			if self || a != b {
				l = append(l, api.Edge{From: a, To: b})
			}
		}
	}
	return l
}

// P17.3 to P17.8: small graphs against models that ask all orders and all rounds.
func TestSmallGraphs(t *testing.T) {
	count, rounds := 0, 0
	for n, l := range small {
		order, ok := modelOrder(n, l)
		round := modelRound(l)
		if ok != (round == nil) {
			t.Fatalf("%d, %v: the models do not agree: %v, %v", n, l, order, round)
		}
		agrees(t, n, l, order, round)
		if count++; !ok {
			rounds++
		}
		if t.Failed() {
			return
		}
	}
	if count < 15000 || rounds < 5000 || count-rounds < 2000 {
		t.Errorf("%d graphs, %d with rounds", count, rounds)
	}
}

// modelLeast is an order, at each place of which the least node is looked for that no edge from one that does not stand yet leads to.
func modelLeast(n int, l []api.Edge) []int {
	var order []int
	for range n {
		for node := range n {
			waits := func(e api.Edge) bool { return e.To == node && !slices.Contains(order, e.From) }
			if !slices.Contains(order, node) && !slices.ContainsFunc(l, waits) {
				order = append(order, node)
				break
			}
		}
	}
	return order
}

// modelFar is how many edges the shortest way has from each node to each one, found by adding nodes over which ways may go one by one.
func modelFar(n int, l []api.Edge) [][]int {
	far := make([][]int, n)
	for a := range far {
		far[a] = make([]int, n)
		for b := range far[a] {
			far[a][b] = 1 << 30
		}
	}
	for _, e := range l {
		far[e.From][e.To] = 1
	}
	for over := range n {
		for a := range n {
			for b := range n {
				far[a][b] = min(far[a][b], far[a][over]+far[over][b])
			}
		}
	}
	return far
}

// modelShortest goes, from each edge on, back to its From along the least edge that leads nearer.
func modelShortest(n int, l []api.Edge) []int {
	far := modelFar(n, l)
	fewest := 1 << 30
	for node := range n {
		fewest = min(fewest, far[node][node])
	}
	var best []int
	for number, e := range l {
		round, at := []int{number}, e.To
		for at != e.From && far[at][e.From] < fewest {
			next := slices.IndexFunc(l, func(f api.Edge) bool {
				return f.From == at && (f.To == e.From || far[f.To][e.From] == far[at][e.From]-1) && (f.To != e.From || far[at][e.From] == 1)
			})
			round, at = append(round, next), l[next].To
		}
		if at == e.From && len(round) == fewest && (best == nil || slices.Compare(round, best) < 0) {
			best = round
		}
	}
	return best
}

// P17.3 to P17.8: greater drawn graphs, of any kinds of edges, against models.
func TestDrawnGraphs(t *testing.T) {
	d := drawn(6)
	rounds, lengths := 0, map[int]int{}
	for k := range 1500 {
		n := 1 + d.below(24)
		l := d.graph(n, d.below(3*n))
		if k%3 == 0 {
			l = d.winding(n, d.below(4*n), 2+d.below(6))
		}
		round := modelShortest(n, l)
		order := modelLeast(n, l)
		if (round == nil) != (len(order) == n) {
			t.Fatalf("%d, %v: the models do not agree: %v, %v", n, l, order, round)
		}
		agrees(t, n, l, order, round)
		if lengths[len(round)]++; round != nil {
			rounds++
		}
		if t.Failed() {
			return
		}
	}
	if rounds < 300 || rounds > 1200 || lengths[1] < 20 || lengths[2] < 20 || lengths[3] < 20 || lengths[4] < 20 || lengths[5] < 20 || lengths[6] < 20 {
		t.Errorf("%d graphs with rounds, %v", rounds, lengths)
	}
}
