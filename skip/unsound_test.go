package skip

import (
	"testing"

	"parley/api"
)

// bound is how many words of nodes a call gets at most.
const bound = api.MaxCells

// row is a tx of a set at 0 whose nodes lie one behind the other: node n (from 0 on) at 100 + 10n, with the word 2n + 10. All of them stand on the level 0, and the last ones, as many as tall tells, on the level 1 too. At one of its gets it says no (0: at none).
type row struct {
	nodes, tall uint64
	asked, puts int
	no          int
}

func (r *row) Get(addr uint64) (uint64, api.Errno) {
	r.asked++
	if r.asked == r.no {
		return 3, api.ErrStale
	}
	switch n := (addr - 100) / 10; {
	case addr == 0:
		return r.lead(0), api.OK
	case addr == 1:
		return r.lead(r.nodes - r.tall), api.OK
	case addr < 100:
		return 0, api.OK
	case addr%10 == 0:
		return 2*n + 10, api.OK
	case addr%10 == 1:
		return 2, api.OK
	default:
		return r.lead(n + 1), api.OK
	}
}

// lead is what a link to a node has.
func (r *row) lead(n uint64) uint64 {
	if n >= r.nodes {
		return 0
	}
	return 100 + 10*n + 1
}

func (r *row) Put(uint64, uint64) api.Errno {
	r.puts++
	return api.OK
}

// Errors: as many words as the bound go; of one more ErrShape, ahead of its get.
func TestTheBoundOfWords(t *testing.T) {
	last := uint64(2*(bound-1) + 10)
	calls := map[string]struct {
		call call
		want answer
	}{
		"Has":         {has(0, top), no},
		"Has last":    {has(0, last), yes},
		"After":       {after(0, last), no},
		"After ahead": {after(0, last-1), tells(last)},
		"Remove":      {remove(50, 0, top), no},
		"Remove last": {remove(50, 0, last), yes},
		"Insert":      {insert(50, 0, last, 3), no},
		"Len":         {length(0), answer{word: bound}},
	}
	for name, c := range calls {
		tx := &row{nodes: bound}
		if got := c.call(tx); got != c.want {
			t.Errorf("%s of %d words answers %v, not %v", name, bound, got, c.want)
		}
	}
	tx := &row{nodes: bound}
	all, err := Keys(tx, 0)
	if len(all) != bound || err != api.OK || all[0] != 10 || all[bound-1] != last {
		t.Errorf("Keys of %d words answers %d, %v", bound, len(all), err)
	}
	// One more: 8 levels' links, as many words and links as the bound, and no more.
	for name, c := range map[string]call{"Has": has(0, top), "Has last": has(0, last+2), "After": after(0, top), "Remove": remove(50, 0, top), "Insert": insert(50, 0, top, 1), "Insert last": insert(50, 0, last+2, 1)} {
		tx := &row{nodes: bound + 1}
		if got := c(tx); got != badShape || tx.asked != 8+2*bound || tx.puts != 0 {
			t.Errorf("%s of one more answers %v behind %d gets, %d puts", name, got, tx.asked, tx.puts)
		}
	}
	for name, c := range map[string]call{"Keys": keys(0), "Len": length(0)} {
		tx := &row{nodes: bound + 1}
		if got := c(tx); got != badShape || tx.asked != 1+2*bound || tx.puts != 0 {
			t.Errorf("%s of one more answers %v behind %d gets, %d puts", name, got, tx.asked, tx.puts)
		}
	}
	// Who does not go so far is not refused.
	for name, c := range map[string]struct {
		call call
		want answer
	}{"First": {first(0), tells(10)}, "Has": {has(0, last), yes}, "After": {after(0, last-1), tells(last)}, "Has first": {has(0, 10), yes}} {
		tx := &row{nodes: 1 << 40}
		if got := c.call(tx); got != c.want {
			t.Errorf("%s answers %v, not %v", name, got, c.want)
		}
	}
}

// Errors: a node whose word is got anew is counted anew.
func TestWordsGotAnew(t *testing.T) {
	last := func(nodes uint64) uint64 { return 2*(nodes-1) + 10 }
	// The last node stands on the level 1, too: there its word is got, and again on the level 0.
	for _, c := range []struct {
		nodes uint64
		x     uint64
		want  answer
	}{
		{bound - 1, last(bound - 1), yes},
		{bound, last(bound), badShape},
		{bound, last(bound) - 1, badShape},
		{bound, last(bound) - 2, yes},
		{bound, last(bound) - 3, no},
	} {
		tx := &row{nodes: c.nodes, tall: 1}
		if got := has(0, c.x)(tx); got != c.want {
			t.Errorf("Has(%d) of %d words answers %v, not %v", c.x, c.nodes, got, c.want)
		}
		if tx = (&row{nodes: c.nodes, tall: 1}); c.want == badShape && (insert(50, 0, c.x, 2)(tx) != badShape || remove(50, 0, c.x)(tx) != badShape || tx.puts > 0) {
			t.Errorf("Insert or Remove of %d, of %d words, is not refused", c.x, c.nodes)
		}
	}
	// All nodes stand on both levels: the way goes along the upper one, and gets few words anew.
	tx := &row{nodes: bound - 1, tall: bound - 1}
	if got := has(0, last(bound-1))(tx); got != yes {
		t.Errorf("answers %v", got)
	}
	tx = &row{nodes: bound, tall: bound}
	if got := has(0, last(bound))(tx); got != badShape {
		t.Errorf("answers %v", got)
	}
	tx = &row{nodes: bound, tall: bound}
	if got := after(0, last(bound))(tx); got != no {
		t.Errorf("answers %v", got)
	}
}

// Errors: those of the tx come first, up to the last get ahead of the bound.
func TestNoAtTheBound(t *testing.T) {
	for _, no := range []int{1, 8, 9, 10, bound, 8 + 2*bound - 1, 8 + 2*bound} {
		tx := &row{nodes: bound + 1, no: no}
		if got := has(0, top)(tx); got != (answer{err: api.ErrStale}) || tx.asked != no {
			t.Errorf("answers %v behind %d gets, not behind %d", got, tx.asked, no)
		}
		tx = &row{nodes: bound + 1, no: no}
		if got := keys(0)(tx); no <= 1+2*bound && (got != (answer{err: api.ErrStale}) || tx.asked != no) {
			t.Errorf("answers %v behind %d gets, not behind %d", got, tx.asked, no)
		}
	}
}

// Errors: links that go round, on each level: all that go on there answer ErrShape, and have put nothing.
func TestLinksThatGoRound(t *testing.T) {
	for level := range uint64(8) {
		// Nodes of the words 3 and 5, at 40 and 50, of which the second one leads to one of the two.
		for _, back := range []uint64{40, 50} {
			w := words{0: 60, 1: 100}
			w.lay(40, 3, 8)
			w.lay(50, 5, 8)
			w.set(20+level, 41)
			w.set(42+level, 51)
			w.set(52+level, back+1)
			for _, c := range []call{has(20, top), after(20, 5), insert(0, 20, 6, 1), remove(0, 20, 6)} {
				b := open(w)
				if got := c(b); got != badShape || puts(b.trace) > 0 {
					t.Errorf("on the level %d, back to %d: answers %v", level, back, got)
				}
			}
			if level > 0 {
				continue
			}
			for _, c := range []call{keys(20), length(20)} {
				b := open(w)
				if got := c(b); got != badShape || len(b.trace) != 1+2*bound {
					t.Errorf("back to %d: answers %v behind %d accesses", back, got, len(b.trace))
				}
			}
			// Who stops ahead of it has nothing to complain of.
			asks(t, w, first(20), tells(3), []access{get(20), get(40)})
			asks(t, w, after(20, 3), tells(5), []access{get(27), get(26), get(25), get(24), get(23), get(22), get(21), get(20), get(40), get(42), get(50)})
		}
	}
	// A header that leads to itself, its first link being the word.
	w := words{20: 21}
	for _, c := range []call{keys(20), length(20)} {
		if got := c(open(w)); got != no && got != (answer{list: "21"}) && got != (answer{word: 1}) {
			t.Errorf("answers %v", got)
		}
	}
	w = words{20: 21, 22: 21}
	for _, c := range []call{keys(20), length(20), has(20, 22), after(20, 21)} {
		if got := c(open(w)); got != badShape {
			t.Errorf("answers %v", got)
		}
	}
}

// P22.3: a node whose level is not from 1 to 8: Remove of its word answers ErrShape, and has put nothing; the other calls don't ask for levels.
func TestNodesOfNoLevel(t *testing.T) {
	for _, level := range []uint64{0, 9, 10, 255, 256, 257, 1 << 31, 1<<32 + 1, 1 << 63, 1<<63 + 1, top, top - 1} {
		w := words{0: 60, 1: 100, 20: 41}
		w.lay(40, 3, level, 44, 5, 1, 0)
		down := []access{get(27), get(26), get(25), get(24), get(23), get(22), get(21), get(20), get(40)}
		asks(t, w, remove(0, 20, 3), badShape, append(down, get(41)))
		b := open(w)
		got := []answer{
			has(20, 3)(b), has(20, 5)(b), after(20, 3)(b), first(20)(b), keys(20)(b), length(20)(b), remove(0, 20, 4)(b), remove(0, 20, 5)(b), insert(0, 20, 4, 1)(b), keys(20)(b),
		}
		want := []answer{yes, yes, tells(5), tells(3), {list: "3 5"}, {word: 2}, no, yes, yes, {list: "3 4"}}
		for n := range want {
			if got[n] != want[n] {
				t.Errorf("the level is %d: answers %v, not %v", level, got[n], want[n])
			}
		}
	}
	for level := uint64(1); level <= 8; level++ {
		w := words{0: 60, 1: 100, 20: 41}
		w.lay(40, 3, level)
		if got := remove(0, 20, 3)(open(w)); got != yes {
			t.Errorf("the level is %d: answers %v", level, got)
		}
	}
}

// P22.3: Remove puts the node's links into the last links' cells, whether or not these led to it.
func TestRemoveAsItIsSaid(t *testing.T) {
	// The node at 40 says that it has 3 levels; the header leads to it on the level 0 alone, and on the level 2 to the node at 50.
	w := words{0: 60, 1: 100, 20: 41, 22: 51}
	w.lay(40, 3, 3, 51, 70, 80)
	w.lay(50, 5, 3, 0, 0, 0)
	asks(t, w, remove(0, 20, 3), yes, []access{
		get(27), get(26), get(25), get(24), get(23), get(22), get(50), get(21), get(20), get(40),
		get(41), get(42), put(20, 51), get(43), put(21, 70), get(44), put(22, 80), get(6), put(40, 0), put(6, 41),
	})
}

// Words that don't rise are none that the chapter's errors name: calls go on as the search says.
func TestWordsThatFall(t *testing.T) {
	w := words{0: 60, 1: 100, 20: 41}
	w.lay(40, 7, 1, 44, 3, 1, 47, 9, 1, 0)
	down := []access{get(27), get(26), get(25), get(24), get(23), get(22), get(21), get(20), get(40)}
	asks(t, w, keys(20), answer{list: "7 3 9"}, []access{get(20), get(40), get(42), get(43), get(45), get(46), get(48)})
	asks(t, w, length(20), answer{word: 3}, []access{get(20), get(40), get(42), get(43), get(45), get(46), get(48)})
	asks(t, w, has(20, 3), no, down)
	asks(t, w, after(20, 7), tells(9), append(down, get(42), get(43), get(45), get(46)))
}

// All calls end and none panics, whatever stands in the cells, and whatever they are handed.
func TestAnyCells(t *testing.T) {
	d := drawn(3)
	edges := []uint64{0, 1, 2, 17, 18, 19, 40, 1 << 32, 1 << 63, top - 1, top}
	edge := func() uint64 {
		if d.below(4) > 0 {
			return uint64(d.below(24))
		}
		return edges[d.below(len(edges))]
	}
	for range 4000 {
		w := words{}
		for range d.below(40) {
			w.set(edge(), edge())
		}
		room, at, x := edge(), edge(), edge()
		calls := []call{lay(at), fresh(room), insert(room, at, x, int(edge())), remove(room, at, x), has(at, x), first(at), after(at, x), keys(at), length(at)}
		put := 0
		// Ways up to the bound are long: nothing is written down of them.
		tx := pair{
			get: func(addr uint64) (uint64, api.Errno) { return w[addr], api.OK },
			put: func(addr, word uint64) api.Errno {
				put++
				w.set(addr, word)
				return api.OK
			},
		}
		got := calls[d.below(len(calls))](tx)
		switch got.err {
		case api.OK:
		case api.ErrShape, api.ErrRoom:
			if got != (answer{err: got.err}) || put > 0 {
				t.Fatalf("answers %v behind %d puts", got, put)
			}
		default:
			t.Fatalf("answers %v", got.err)
		}
	}
}
