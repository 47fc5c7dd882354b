package graph

import (
	"cmp"
	"slices"
	"testing"

	"parley/api"
	"parley/events"
	"parley/sched"
	"parley/witness"
)

// leastOf tells whether no order that keeps the edges is less than one: at each place each lesser node that stands behind it waits for one that does not stand ahead.
func leastOf(n int, order []int, l []api.Edge) bool {
	place := make([]int, n)
	for at, node := range order {
		place[node] = at
	}
	waits := make([]int, n) // of each node the place of the last one from which an edge leads to it
	for node := range waits {
		waits[node] = -1
	}
	for _, e := range l {
		waits[e.To] = max(waits[e.To], place[e.From])
	}
	for at, node := range order {
		for _, later := range order[at+1:] {
			if later < node && waits[later] < at {
				return false
			}
		}
	}
	return true
}

// P17.8: there is an Order just if there is no Round; it is kept, and is the least that is; the needed edges alone lead as far.
func TestWhatFollows(t *testing.T) {
	d := drawn(21)
	rounds := 0
	const graphs = 800
	for k := range graphs {
		n := 1 + d.below(60)
		l := d.graph(n, d.below(5*n))
		if k%4 == 0 {
			l = d.winding(n, d.below(2*n), 2+d.below(9))
		}
		order, err := Order(n, l...)
		round, has, _ := Round(n, l...)
		if has != (err == api.ErrRound) || has != isRound(l, round) {
			t.Fatalf("%d, %v: Order answers %v, Round %v, %v", n, l, err, round, has)
		}
		if has {
			rounds++
			continue
		}
		if !Keeps(n, order, l...) || !leastOf(n, order, l) {
			t.Fatalf("%d, %v: the order %v", n, l, order)
		}
		needed, _ := Needed(n, l...)
		var alone []api.Edge
		for _, number := range needed {
			alone = append(alone, l[number])
		}
		for from := range n {
			want, _ := Reach(n, from, l...)
			reaches(t, n, from, alone, want...)
		}
		// Each of them is needed: without it not all is reached.
		for k, e := range alone {
			without := slices.Delete(slices.Clone(alone), k, k+1)
			if got, _ := Reach(n, e.From, without...); slices.Contains(got, e.To) {
				t.Fatalf("%d, %v: the edge %v is not needed", n, l, e)
			}
		}
	}
	if rounds < 200 || graphs-rounds < 200 {
		t.Errorf("%d of %d graphs have rounds", rounds, graphs)
	}
}

// promised is the order of a history's nodes that P17.8 tells.
func promised(h []api.Event, nodes []api.Try) []int {
	l := make([]int, len(nodes))
	for n := range l {
		l[n] = n
	}
	slices.SortFunc(l, func(a, b int) int {
		p, q := nodes[a], nodes[b]
		rank := func(t api.Try) int { return cmp.Compare(0, t.Writes) }
		return cmp.Or(cmp.Compare(h[p.Last].Word, h[q.Last].Word), cmp.Compare(rank(p), rank(q)), cmp.Compare(p.Last, q.Last))
	})
	return l
}

// inOrder asks for no round in a history's graph, and for the promised order.
func inOrder(t *testing.T, h []api.Event) []api.Try {
	t.Helper()
	nodes, l, err := Of(h)
	if err != api.OK {
		t.Fatal(err)
	}
	if round, has, err := Round(len(nodes), l...); has || err != api.OK {
		t.Fatalf("%s has the round %v of %v, %v", asText(h), round, l, err)
	}
	if order := promised(h, nodes); !Keeps(len(nodes), order, l...) {
		t.Fatalf("%s: the order %v does not keep %v", asText(h), order, l)
	}
	order, err := Order(len(nodes), l...)
	if err != api.OK || !Keeps(len(nodes), order, l...) {
		t.Fatalf("%s: the order %v of %v, %v", asText(h), order, l, err)
	}
	return nodes
}

// P17.8: of runs of scripts without load and store, by many picks, the graph has no round.
func TestRunsHaveNoRound(t *testing.T) {
	d := drawn(22)
	nodes, alone := 0, 0
	for range 1200 {
		h := run(t, d.script(600))
		for _, n := range inOrder(t, h) {
			if nodes++; n.Writes == 0 {
				alone++
			}
		}
	}
	if nodes < 5000 || alone < 1000 || nodes-alone < 1000 {
		t.Errorf("%d nodes, %d of which read alone", nodes, alone)
	}
}

// P17.8: a longer run of some threads that write and read the same cells, over and over.
func TestLongRun(t *testing.T) {
	const adds = "const 1 1 | begin | get 0 2 | add 0 0 1 | put 0 2 | end | jump 1"
	const reads = "const 1 1 | begin | get 0 1 | get 3 2 | end | jump 1"
	const moves = "const 1 1 | begin | get 0 1 | put 0 2 | get 3 2 | put 3 1 | end | jump 1"
	s := api.Script{Cells: 2, Programs: [][]api.Instr{prog(adds), prog(reads), prog(moves), prog(reads), prog(adds)}}
	d := drawn(23)
	for range 12000 {
		s.Picks = append(s.Picks, uint32(d.next()))
	}
	if nodes := inOrder(t, run(t, s)); len(nodes) < 400 {
		t.Errorf("%d nodes", len(nodes))
	}
}

// P17.8: of a small script all picks of some length, each beginning of which is one too; the threads then go on by turns.
func TestAllPicksHaveNoRound(t *testing.T) {
	s := api.Script{Cells: 2, Programs: [][]api.Instr{prog("const 2 1 | begin | get 0 1 | put 2 2 | end | halt"), prog("const 2 1 | begin | get 0 2 | put 2 1 | end | begin | get 0 1 | end | halt")}}
	const most = 13
	both := map[string]int{}
	for picks := range 1 << most {
		r, _ := sched.New(s)
		for n := range most {
			r.Pick(uint32(picks >> n & 1))
		}
		inOrder(t, r.Outcome().Events)
		r.Turns(200)
		h := r.Outcome().Events
		inOrder(t, h)
		_, l, _ := Of(h)
		for _, e := range l {
			both[[...]string{"", "time", "write", "seen", "unseen"}[e.Kind]]++
		}
	}
	if both["time"] == 0 || both["write"] > 0 || both["seen"] == 0 || both["unseen"] == 0 {
		t.Errorf("%v", both)
	}
}

// P17.8: the words that were read are not looked at, nor are plain accesses: so it holds of all histories that can be, drawn ones too.
func TestDrawnHistoriesHaveNoRound(t *testing.T) {
	d := drawn(24)
	nodes := 0
	for range 800 {
		nodes += len(inOrder(t, d.history(150, 1+d.below(8))))
	}
	if nodes < 3000 {
		t.Errorf("%d nodes", nodes)
	}
}

// P0.1, P0.2: the order of layer 15 keeps the graph, too.
func TestWitnessKeeps(t *testing.T) {
	d := drawn(25)
	for range 400 {
		h := run(t, d.script(400))
		nodes, l, _ := Of(h)
		blocks, _ := witness.Blocks(h)
		all, _ := witness.Order(h)
		var order []int
		for _, n := range all {
			if blocks[n].Kind == api.BlockCommitted {
				order = append(order, slices.IndexFunc(nodes, func(t api.Try) bool { return t.Last == blocks[n].Last }))
			}
		}
		if !Keeps(len(nodes), order, l...) {
			t.Fatalf("%s: the order %v does not keep %v", asText(h), order, l)
		}
	}
}

// The nodes are those of layer 13's attempts that committed, and its commits are their last events.
func TestNodesAreCommits(t *testing.T) {
	d := drawn(26)
	for range 300 {
		h := d.history(120, 1+d.below(8))
		nodes, _, _ := Of(h)
		commits, _ := events.Commits(h)
		tries, _ := events.Tries(h)
		var last []int
		for _, n := range nodes {
			if last = append(last, n.Last); !slices.Contains(tries, n) {
				t.Fatalf("%s: %+v is no attempt", asText(h), n)
			}
		}
		if !slices.Equal(last, commits) {
			t.Fatalf("%s: nodes end at %v, commits stand at %v", asText(h), last, commits)
		}
	}
}
