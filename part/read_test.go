package part

import (
	"testing"

	"parley/api"
)

// P26.2: each node's word, and then its next one, in the chain's order; the words.
func TestRead(t *testing.T) {
	eachPart(t, func(t *testing.T, w words, p api.Part, nodes, had []uint64) {
		var trace []access
		for _, node := range nodes {
			trace = append(trace, get(node), get(node+1))
		}
		goes(t, w, reads(p), answer{list: text(had)}, trace...)
	})
}

// P26.2: a chain that has fewer or more nodes than Count: as soon as that shows.
func TestReadOfAnotherCount(t *testing.T) {
	eachPart(t, func(t *testing.T, w words, p api.Part, nodes, had []uint64) {
		many := uint64(len(nodes))
		for _, count := range []uint64{0, 1, 2, 3, many - 1, many + 1, many + 2, api.MaxCells} {
			if count == many || count > api.MaxCells {
				continue
			}
			var trace []access
			for _, node := range nodes[:min(count, many)] {
				trace = append(trace, get(node), get(node+1))
			}
			other := p
			other.Count = count
			goes(t, w, reads(other), wrong(api.ErrPart), trace...)
		}
	})
}

// P26.2: no part has more than MaxCells nodes: that shows without a load.
func TestReadOfTooMany(t *testing.T) {
	eachPart(t, func(t *testing.T, w words, p api.Part, _, _ []uint64) {
		for _, count := range []uint64{api.MaxCells + 1, api.MaxCells + 2, 1 << 32, 1 << 63, top - 1, top} {
			p.Count = count
			goes(t, w, reads(p), wrong(api.ErrPart))
		}
	})
}

// P26.2: a part without nodes has no word, and loads nothing; one that has a count and no node, or a node and no count, does not hold together.
func TestReadOfNoNode(t *testing.T) {
	for _, kind := range kinds {
		goes(t, words{}, reads(api.Part{Kind: kind}), nothing)
		goes(t, words{}, reads(api.Part{Kind: kind, Count: 1}), wrong(api.ErrPart))
		goes(t, words{5: 3}, reads(api.Part{Kind: kind, First: 6}), wrong(api.ErrPart))
		if got, err := Read(api.Part{Kind: kind}, open(words{}).Get); len(got) != 0 || err != api.OK {
			t.Errorf("answers %v, %v", got, err)
		}
	}
}

// P26.2: chains that go round end, by two loads a node that is counted.
func TestReadOfChainsThatGoRound(t *testing.T) {
	for _, r := range []struct {
		name  string
		cells words
	}{
		{"a node leads to itself", words{21: 21}},
		{"the second one leads back", words{21: 31, 31: 21}},
		{"the second one leads to itself", words{21: 31, 31: 31}},
		{"the third one leads to the second one", words{21: 31, 31: 41, 41: 31}},
		{"its cells are its own next one", words{20: 20, 21: 21}},
	} {
		t.Run(r.name, func(t *testing.T) {
			for _, count := range []uint64{0, 1, 2, 3, 4, 1000, api.MaxCells, api.MaxCells + 1, top} {
				for _, kind := range kinds {
					p := api.Part{Kind: kind, First: 21, Count: count}
					loads := 2 * count
					if count > api.MaxCells {
						loads = 0
					}
					b := open(r.cells)
					if got := reads(p)(b); got != wrong(api.ErrPart) || uint64(len(b.trace)) != loads {
						t.Errorf("of %d: answers %v behind %d loads", count, got, len(b.trace))
					}
				}
			}
		})
	}
}

// line is cells of a part whose nodes lie one behind the other from 1 on, with the words 0, 1, 2, ..; which are many, and no other cells are there.
type line struct{ many uint64 }

func (l line) Get(addr uint64) (uint64, api.Errno) {
	switch node := (addr - 1) / 2; {
	case addr == 0, node >= l.many:
		return 0, api.ErrRange
	case addr%2 == 1:
		return node, api.OK
	case node == l.many-1:
		return 0, api.OK
	default:
		return addr + 2, api.OK
	}
}

func (l line) Put(uint64, uint64) api.Errno { return api.ErrFull }

// P26.2: MaxCells nodes are read, and one more are not.
func TestTheBoundOfNodes(t *testing.T) {
	for _, kind := range kinds {
		for _, many := range []uint64{1, 2, 1000, api.MaxCells - 1, api.MaxCells} {
			got, err := Read(api.Part{Kind: kind, First: 2, Count: many}, line{many}.Get)
			if err != api.OK || uint64(len(got)) != many {
				t.Fatalf("of %d: answers %d words, %v", many, len(got), err)
			}
			for n, word := range got {
				if word != uint64(n) {
					t.Fatalf("the word %d is %d", n, word)
				}
			}
			for _, count := range []uint64{many - 1, many + 1} {
				if got, err := Read(api.Part{Kind: kind, First: 2, Count: count}, line{many}.Get); got != nil || err != api.ErrPart {
					t.Errorf("of %d by the count %d: answers %d words, %v", many, count, len(got), err)
				}
			}
		}
		for _, many := range []uint64{api.MaxCells + 1, 1 << 17} {
			for _, count := range []uint64{many, api.MaxCells} {
				if got, err := Read(api.Part{Kind: kind, First: 2, Count: count}, line{many}.Get); got != nil || err != api.ErrPart {
					t.Errorf("of %d by the count %d: answers %d words, %v", many, count, len(got), err)
				}
			}
		}
	}
}

// fewer is a load and a store that have the cells below a number alone; all others they refuse.
func fewer(b *book, cells uint64) api.Tx {
	return pair{
		get: func(addr uint64) (uint64, api.Errno) {
			if addr >= cells {
				return 3, api.ErrRange
			}
			return b.Get(addr)
		},
		put: func(addr, word uint64) api.Errno {
			if addr >= cells {
				return api.ErrRange
			}
			return b.Put(addr, word)
		},
	}
}

// absent is parts of which nodes, or halves of nodes, are not there, over the cells below 30.
var absent = []struct {
	name  string
	cells words
	part  api.Part
}{
	{"the first node", words{}, api.Part{First: 31, Count: 1}},
	{"the first node, far behind", words{}, api.Part{First: top, Count: 3}},
	{"the first node's second cell", words{29: 4}, api.Part{First: 30, Count: 1}},
	{"the second node", words{20: 4, 21: 1000}, api.Part{First: 21, Count: 2}},
	{"the second node's second cell", words{20: 4, 21: 30, 29: 6}, api.Part{First: 21, Count: 2}},
	{"the third node", words{20: 4, 21: 25, 24: 6, 25: top}, api.Part{First: 21, Count: 3}},
	{"the third node, at the greatest address", words{20: 4, 21: 25, 24: 6, 25: 1<<63 + 1}, api.Part{First: 21, Count: 9}},
}

// P26.2: a chain that leads to cells that are not there: what load answers, at once.
func TestReadOfNodesThatAreNotThere(t *testing.T) {
	for _, a := range absent {
		for _, kind := range kinds {
			p := a.part
			p.Kind = kind
			if got := reads(p)(fewer(open(a.cells), 30)); got != wrong(api.ErrRange) {
				t.Errorf("%s: answers %v", a.name, got)
			}
		}
	}
}

// P26.2: where a chain has more nodes than Count, the ones that are too many need not be there.
func TestReadAsSoonAsItShows(t *testing.T) {
	for _, kind := range kinds {
		w := words{20: 4, 21: 25, 24: 6, 25: 1000}
		if got := reads(api.Part{Kind: kind, First: 21, Count: 2})(fewer(open(w), 30)); got != wrong(api.ErrPart) {
			t.Errorf("answers %v", got)
		}
		if got := reads(api.Part{Kind: kind, First: 1000})(fewer(open(w), 30)); got != wrong(api.ErrPart) {
			t.Errorf("answers %v", got)
		}
		if got := reads(api.Part{Kind: kind, First: 1000, Count: api.MaxCells + 1})(fewer(open(w), 30)); got != wrong(api.ErrPart) {
			t.Errorf("answers %v", got)
		}
	}
}

// An answer is new memory.
func TestReadIsNewMemory(t *testing.T) {
	w, p := chained(api.PartQueue, at[0], rows[2])
	b := open(w)
	one, _ := Read(p, b.Get)
	other, _ := Read(p, b.Get)
	for n := range one {
		one[n] = 99
	}
	_ = append(one[:0], 1, 2, 3)
	if text(other) != text(rows[2]) {
		t.Errorf("two answers share memory: %v", other)
	}
	if got := reads(p)(b); got != (answer{list: text(rows[2])}) {
		t.Errorf("answers %v then", got)
	}
}
