package queue

import (
	"testing"

	"parley/api"
	rooms "parley/room"
)

// P23.1: New: three cells of the room, with noughts.
func TestNew(t *testing.T) {
	for _, p := range places {
		size := p.to - p.from
		w := asks(t, laid(p), lay(p.room), answer{word: p.from})
		is(t, w, p.from)
		holds(t, w, p.room, size-3)
		w = asks(t, w, lay(p.room), answer{word: p.from + 3})
		is(t, w, p.from)
		is(t, w, p.from+3)
		holds(t, w, p.room, size-6)
		if w[p.from+6] != 9006 {
			t.Errorf("a cell behind the queue's has changed")
		}
	}
}

// P23.1, P23.5: New out of a room with few cells: nothing was put.
func TestNewOfFewCells(t *testing.T) {
	for _, p := range places {
		for cells := range uint64(3) {
			p.to = p.from + cells
			asks(t, laid(p), lay(p.room), answer{err: api.ErrRoom})
		}
		p.to = p.from + 3
		w := asks(t, laid(p), lay(p.room), answer{word: p.from})
		is(t, w, p.from)
		holds(t, w, p.room, 0)
		asks(t, w, lay(p.room), answer{err: api.ErrRoom})
	}
}

// P23.1: New of cells that were others' ahead has no words of theirs.
func TestNewOfGivenCells(t *testing.T) {
	for _, p := range places {
		b := open(laid(p))
		piece, err := rooms.Take(b, p.room, 3)
		if err != api.OK {
			t.Fatal(err)
		}
		for n := range uint64(3) {
			b.Put(piece+n, top-n)
		}
		rooms.Give(b, p.room, piece, 3)
		w := asks(t, b.words, lay(p.room), answer{word: piece})
		is(t, w, piece)
		gave(t, w, p.room, 3)
		for n := range uint64(3) {
			if w[piece+n] != 0 {
				t.Errorf("the cell %d of the queue has %d", n, w[piece+n])
			}
		}
	}
}

// P23.1: pieces of a node's size that were given back are no queue's, nor are those of two queues one.
func TestNewBesideGivenNodes(t *testing.T) {
	p := places[0]
	w, q := built(p, 5, 6)
	w = asks(t, w, takeOut(p.room, q), tells(5))
	w = asks(t, w, lay(p.room), answer{word: nodeAt(q, 2)})
	holds(t, w, p.room, p.to-p.from-10, nodeAt(q, 0))
	is(t, w, q, 6)
}

// P23.4: Drop of an empty queue, of one word, of many: the nodes' pieces, the first one first, then the queue's own.
func TestDrop(t *testing.T) {
	for _, p := range places {
		for many := range 9 {
			var had, given []uint64
			for n := range many {
				had = append(had, uint64(100-n))
			}
			w, q := built(p, had...)
			for n := range many {
				given = append(given, nodeAt(q, many-1-n))
			}
			w = asks(t, w, drop(p.room, q), nothing)
			holds(t, w, p.room, p.to-p.from-3-2*uint64(many), given...)
			gave(t, w, p.room, 3, q)
		}
	}
}

// P23.4: the nodes are given back as they stand in the chain, not as they lie in the cells; behind pieces that were given back ahead.
func TestDropInTheChainsOrder(t *testing.T) {
	for _, p := range places {
		w, q := built(p, 1, 2, 3, 4)
		w = asks(t, w, takeOut(p.room, q), tells(1))
		w = asks(t, w, takeOut(p.room, q), tells(2))
		w = asks(t, w, putIn(p.room, q, 5), nothing)
		// The chain lies at the nodes 2, 3, 1; the node 0 was given back ahead.
		w = asks(t, w, drop(p.room, q), nothing)
		holds(t, w, p.room, p.to-p.from-11, nodeAt(q, 1), nodeAt(q, 3), nodeAt(q, 2), nodeAt(q, 0))
		gave(t, w, p.room, 3, q)
	}
}

// P23.4: the queue that was dropped last is the next one.
func TestNewBehindDrop(t *testing.T) {
	for _, p := range places {
		w, q := built(p, 5, 7)
		w = asks(t, w, lay(p.room), answer{word: q + 7})
		w = asks(t, w, drop(p.room, q+7), nothing)
		w = asks(t, w, drop(p.room, q), nothing)
		gave(t, w, p.room, 3, q, q+7)
		w = asks(t, w, lay(p.room), answer{word: q})
		is(t, w, q)
		w = asks(t, w, putIn(p.room, q, 9), nothing)
		is(t, w, q, 9)
		w = asks(t, w, lay(p.room), answer{word: q + 7})
		is(t, w, q+7)
		is(t, w, q, 9)
	}
}
