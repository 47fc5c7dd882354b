package part

import (
	"testing"

	"parley/api"
)

// P26.3: each node's word is loaded, f of it is stored, the next one is loaded, in that order.
func TestTurn(t *testing.T) {
	eachPart(t, func(t *testing.T, w words, p api.Part, nodes, had []uint64) {
		for _, f := range []func(uint64) uint64{twice, flips, func(word uint64) uint64 { return word }, func(uint64) uint64 { return 0 }} {
			var trace []access
			var want []uint64
			for n, node := range nodes {
				trace = append(trace, get(node), sets(node, f(had[n])), get(node+1))
				want = append(want, f(had[n]))
			}
			goes(t, w, turns(p, f), nothing, trace...)
			b := open(w.behind(trace))
			if got := reads(p)(b); got != (answer{list: text(want)}) {
				t.Errorf("Read answers %v behind it, not %v", got, want)
			}
		}
	})
}

// P26.3: f is called once for each node, with its word, between its load and its store.
func TestWhenFIsCalled(t *testing.T) {
	eachPart(t, func(t *testing.T, w words, p api.Part, nodes, had []uint64) {
		b := open(w)
		var heard []uint64
		f := func(word uint64) uint64 {
			if n := len(heard); len(b.trace) != 3*n+1 || b.trace[3*n] != get(nodes[n]) {
				t.Errorf("is called behind %v", b.trace)
			}
			heard = append(heard, word)
			return uint64(len(heard))
		}
		if err := Turn(p, b.Get, b.Put, f); err != api.OK {
			t.Error(err)
		}
		if text(heard) != text(had) {
			t.Errorf("f has heard %v, not %v", heard, had)
		}
		for n, node := range nodes {
			if b.words[node] != uint64(n+1) {
				t.Errorf("the node %d has %d", n, b.words[node])
			}
		}
	})
}

// P26.3: ErrPart as it shows: what was stored till then is stored.
func TestTurnOfAnotherCount(t *testing.T) {
	eachPart(t, func(t *testing.T, w words, p api.Part, nodes, had []uint64) {
		many := uint64(len(nodes))
		for _, count := range []uint64{0, 1, 2, many - 1, many + 1, many + 7, api.MaxCells, api.MaxCells + 1, top} {
			if count == many {
				continue
			}
			var trace []access
			if count <= api.MaxCells {
				for n, node := range nodes[:min(count, many)] {
					trace = append(trace, get(node), sets(node, flips(had[n])), get(node+1))
				}
			}
			p.Count = count
			goes(t, w, turns(p, flips), wrong(api.ErrPart), trace...)
		}
	})
}

// P26.3: chains that go round end; a node that is come to again is turned again.
func TestTurnOfChainsThatGoRound(t *testing.T) {
	for _, kind := range kinds {
		w := words{20: 1, 21: 31, 30: 1, 31: 21}
		goes(t, w, turns(api.Part{Kind: kind, First: 21, Count: 3}, twice), wrong(api.ErrPart),
			get(20), sets(20, 2), get(21), get(30), sets(30, 2), get(31), get(20), sets(20, 4), get(21))
		for _, count := range []uint64{1, 2, 1000, api.MaxCells} {
			b := open(words{20: 1, 21: 21})
			add := func(word uint64) uint64 { return word + 1 }
			if got := turns(api.Part{Kind: kind, First: 21, Count: count}, add)(b); got != wrong(api.ErrPart) || b.words[20] != 1+count {
				t.Errorf("of %d: answers %v, the cell is %d", count, got, b.words[20])
			}
		}
	}
}

// P26.3: what is stored in a node's word may be another one's way: the way is gone as it is then.
func TestTurnOfNodesWithACellInCommon(t *testing.T) {
	// The node at 20 leads to the one at 21, whose word is the way of the one at 20, and which leads to the node at 30.
	w := words{20: 5, 21: 22, 22: 31, 30: 7}
	for _, kind := range kinds {
		goes(t, w, turns(api.Part{Kind: kind, First: 21, Count: 3}, twice), nothing,
			get(20), sets(20, 10), get(21), get(21), sets(21, 44), get(22), get(30), sets(30, 14), get(31))
	}
}

// P26.3: a chain that leads to cells that are not there: what load or store answers, at once; what was stored till then is stored.
func TestTurnOfNodesThatAreNotThere(t *testing.T) {
	for _, a := range absent {
		for _, kind := range kinds {
			p := a.part
			p.Kind = kind
			b := open(a.cells)
			if got := turns(p, flips)(fewer(b, 30)); got != wrong(api.ErrRange) {
				t.Errorf("%s: answers %v", a.name, got)
			}
			want := a.cells
			for _, addr := range []uint64{20, 24, 29} {
				if word, is := a.cells[addr]; is {
					want = want.with(words{addr: ^word})
				}
			}
			if text(cellsOf(b.words)) != text(cellsOf(want)) {
				t.Errorf("%s: the cells are %v, not %v", a.name, b.words, want)
			}
		}
	}
}

// cellsOf is the cells below 30.
func cellsOf(w words) []uint64 {
	var list []uint64
	for addr := range uint64(30) {
		list = append(list, w[addr])
	}
	return list
}

// P26.3: a store that is another one's than load's: what it answers ends the call.
func TestTurnByTwoOthers(t *testing.T) {
	w, p := chained(api.PartList, at[0], rows[2])
	from, into := open(w), open(words{})
	if err := Turn(p, from.Get, into.Put, twice); err != api.OK || from.puts() > 0 {
		t.Errorf("answers %v behind %v", err, from.trace)
	}
	for n, word := range rows[2] {
		if into.trace[n] != sets(at[0][n], 2*word) {
			t.Errorf("stores %v", into.trace[n])
		}
	}
	if len(into.trace) != len(rows[2]) {
		t.Errorf("stores %v", into.trace)
	}
}
