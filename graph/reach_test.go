package graph

import (
	"testing"

	"parley/api"
)

// P17.5: Reach: from alone, along ways and rounds, not to nodes that no way leads to; rising.
func TestReach(t *testing.T) {
	reaches(t, 1, 0, nil, 0)
	reaches(t, 1, 0, edges(0, 0, 0, 0), 0)
	reaches(t, 4, 2, nil, 2)
	reaches(t, 4, 2, edges(0, 2, 1, 2, 3, 2), 2)
	reaches(t, 4, 3, edges(3, 2, 2, 1, 1, 0), 0, 1, 2, 3)
	reaches(t, 4, 1, edges(3, 2, 2, 1, 1, 0), 0, 1)
	// Along a round, and out of it; not into it.
	round := edges(0, 1, 1, 2, 2, 0, 2, 3, 4, 0)
	reaches(t, 5, 0, round, 0, 1, 2, 3)
	reaches(t, 5, 1, round, 0, 1, 2, 3)
	reaches(t, 5, 3, round, 3)
	reaches(t, 5, 4, round, 0, 1, 2, 3, 4)
	// By several ways, and by edges that stand twice: each node once.
	reaches(t, 5, 0, edges(0, 3, 0, 2, 3, 4, 2, 4, 0, 3, 0, 4), 0, 2, 3, 4)
	// Nodes that no way leads to.
	reaches(t, 6, 0, edges(0, 5, 1, 2, 2, 1, 3, 5, 4, 0), 0, 5)
}

// P17.5: Depths: of several ways the longest one; nodes that none leads to; edges that stand twice count once in a way.
func TestDepths(t *testing.T) {
	deep(t, 0, nil)
	deep(t, 3, nil, 0, 0, 0)
	deep(t, 2, edges(1, 0), 1, 0)
	deep(t, 2, edges(1, 0, 1, 0), 1, 0)
	deep(t, 4, edges(3, 2, 2, 1, 1, 0), 3, 2, 1, 0)
	// The longest way's edges stand ahead of, or behind, the short one.
	deep(t, 4, edges(0, 3, 0, 1, 1, 2, 2, 3), 0, 1, 2, 3)
	deep(t, 4, edges(0, 1, 1, 2, 2, 3, 0, 3), 0, 1, 2, 3)
	deep(t, 4, edges(2, 3, 0, 3, 1, 2, 0, 1), 0, 1, 2, 3)
	// Ways from several first nodes.
	deep(t, 6, edges(5, 3, 4, 1, 1, 2, 2, 3, 0, 3), 0, 1, 2, 3, 0, 0)
	deep(t, 6, edges(0, 2, 2, 4, 1, 3, 3, 5, 5, 4), 0, 0, 1, 1, 3, 2)
	inRound(t, 1, edges(0, 0))
	inRound(t, 4, edges(0, 1, 2, 3, 3, 2))
}

// P17.6: edges that stand twice, edges beside longer ways, and edges that are needed though there are others.
func TestNeeded(t *testing.T) {
	need(t, 0, nil)
	need(t, 3, nil)
	need(t, 2, edges(0, 1), 0)
	need(t, 2, edges(1, 0, 1, 0, 1, 0), 0)
	need(t, 3, edges(0, 1, 0, 2, 0, 1, 0, 2), 0, 1)
	// Beside a way of two edges, of three, of two ways; the needless one stands first, between, last, twice.
	need(t, 3, edges(0, 2, 0, 1, 1, 2), 1, 2)
	need(t, 3, edges(0, 1, 0, 2, 1, 2), 0, 2)
	need(t, 3, edges(0, 1, 1, 2, 0, 2, 0, 2), 0, 1)
	need(t, 4, edges(0, 3, 0, 1, 1, 2, 2, 3), 1, 2, 3)
	need(t, 4, edges(0, 3, 0, 1, 0, 2, 1, 3, 2, 3), 1, 2, 3, 4)
	// The longer way goes by an edge that is needless itself.
	need(t, 4, edges(0, 3, 0, 2, 2, 3, 0, 1, 1, 2, 1, 3), 2, 3, 4)
	// All edges of four nodes: neighbours alone.
	need(t, 4, edges(0, 1, 0, 2, 0, 3, 1, 2, 1, 3, 2, 3), 0, 3, 5)
	need(t, 4, edges(3, 0, 3, 1, 3, 2, 2, 0, 2, 1, 1, 0), 2, 4, 5)
	// No longer way: two that lead to one, one that leads to two, ways that meet elsewhere.
	need(t, 4, edges(0, 1, 2, 1, 0, 3, 2, 3), 0, 1, 2, 3)
	need(t, 5, edges(0, 1, 0, 2, 1, 3, 2, 4), 0, 1, 2, 3)
	inRound(t, 2, edges(1, 1))
	inRound(t, 3, edges(0, 1, 1, 2, 0, 2, 2, 1))
}

// P17.3, P17.5, P17.6: as many nodes as may be in one line, their numbers mixed, with edges beside it of all lengths: the line alone is needed.
func TestGreatLine(t *testing.T) {
	const n = 65536
	d := drawn(9)
	names := d.shuffled(n)
	var l []api.Edge
	var line, beside []int
	depths := make([]int, n)
	for k := range n {
		depths[names[k]] = k
		for range d.below(2) {
			if k+2 < n {
				beside = append(beside, len(l))
				l = append(l, api.Edge{From: names[k], To: names[k+2+d.below(n-k-2)]})
			}
		}
		if k+1 < n {
			line = append(line, len(l))
			l = append(l, api.Edge{From: names[k], To: names[k+1]})
		}
	}
	ordered(t, n, l, names...)
	deep(t, n, l, depths...)
	need(t, n, l, line...)
	found(t, n, l)
	reach, err := Reach(n, names[n-1000], l...)
	if err != api.OK || len(reach) != 1000 {
		t.Errorf("%d nodes, %v", len(reach), err)
	}
	reach, err = Reach(n, names[0], l...)
	if err != api.OK || len(reach) != n || reach[n-1] != n-1 {
		t.Errorf("%d nodes, %v", len(reach), err)
	}
	if !Keeps(n, names, l...) || len(beside) < 10000 {
		t.Errorf("%d edges beside the line", len(beside))
	}
	back := append(l[:len(l):len(l)], api.Edge{From: names[n-1], To: names[0]})
	inRound(t, n, back)
	names[7], names[8] = names[8], names[7]
	if Keeps(n, names, l...) {
		t.Error("two nodes of the line stand the wrong way round")
	}
}

// P17.6: more nodes than a stretch has, in drawn graphs against the model.
func TestNeededOfManyNodes(t *testing.T) {
	d := drawn(10)
	for _, n := range []int{511, 512, 513, 700} {
		var l []api.Edge
		for range 4 * n {
			a, b := d.below(n), d.below(n)
			if a < b && b-a < 60 {
				l = append(l, api.Edge{From: a, To: b})
			}
		}
		for range n {
			if a := d.below(n - 1); d.below(3) > 0 {
				l = append(l, api.Edge{From: a, To: a + 1})
			}
		}
		l = d.renamed(n, l)
		needed := modelNeeded(modelWays(n, l), l)
		if need(t, n, l, needed...); len(needed) < n/4 || len(needed) > len(l)*9/10 {
			t.Errorf("%d of %d edges are needed", len(needed), len(l))
		}
	}
}
