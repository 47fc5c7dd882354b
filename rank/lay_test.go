package rank

import (
	"slices"
	"testing"

	"parley/api"
	rooms "parley/room"
)

// P24.2: New: two cells of the room, without entries.
func TestNew(t *testing.T) {
	for _, p := range places {
		size := p.to - p.from
		w := asks(t, laid(p), lay(p.room), answer{word: p.from})
		is(t, w, p.from)
		holds(t, w, p.room, size-2)
		w = asks(t, w, lay(p.room), answer{word: p.from + 2})
		is(t, w, p.from)
		is(t, w, p.from+2)
		holds(t, w, p.room, size-4)
		if w[p.from+4] != 9004 {
			t.Errorf("a cell behind the heap's has changed")
		}
	}
}

// P24.1, P24.2: New out of a room with few cells: nothing was put.
func TestNewOfFewCells(t *testing.T) {
	for _, p := range places {
		for cells := range uint64(2) {
			p.to = p.from + cells
			asks(t, laid(p), lay(p.room), answer{err: api.ErrRoom})
		}
		p.to = p.from + 2
		w := asks(t, laid(p), lay(p.room), answer{word: p.from})
		is(t, w, p.from)
		holds(t, w, p.room, 0)
		asks(t, w, lay(p.room), answer{err: api.ErrRoom})
	}
}

// P24.2: New of cells that were others' ahead has no entries of theirs.
func TestNewOfGivenCells(t *testing.T) {
	for _, p := range places {
		b := open(laid(p))
		piece, err := rooms.Take(b, p.room, 2)
		if err != api.OK {
			t.Fatal(err)
		}
		b.Put(piece, top)
		b.Put(piece+1, top)
		rooms.Give(b, p.room, piece, 2)
		w := asks(t, b.words, lay(p.room), answer{word: piece})
		is(t, w, piece)
		if w[piece] != 0 || w[piece+1] != 0 {
			t.Errorf("the heap's cells have %d and %d", w[piece], w[piece+1])
		}
		if got, err := rooms.Given(open(w), p.room, 2); len(got) > 0 || err != api.OK {
			t.Errorf("given back are %v, %v", got, err)
		}
	}
}

// P24.3: Clear of no entry, of one, of many: how many they were; their cells are given back, and the heap's own are not.
func TestClear(t *testing.T) {
	for _, p := range places {
		for _, s := range splits {
			for _, list := range rows {
				w, h := built(p, s, list...)
				if len(list) == 0 {
					looks(t, w, clearAll(p.room, h), answer{word: 0})
					continue
				}
				w = asks(t, w, clearAll(p.room, h), answer{word: uint64(len(list))})
				is(t, w, h)
				var nodes []uint64
				for n := range list {
					nodes = append(nodes, nodeAt(h, n))
				}
				given := given5(t, w, p.room)
				slices.Sort(given)
				slices.Sort(nodes)
				if !slices.Equal(given, nodes) {
					t.Errorf("given back were %v, not %v", given, nodes)
				}
				if left, err := rooms.Left(open(w), p.room); left != p.to-nodeAt(h, len(list)) || err != api.OK {
					t.Errorf("%d cells are left, %v", left, err)
				}
				looks(t, w, clearAll(p.room, h), answer{word: 0})
			}
		}
	}
}

// P24.3: behind Clear all cells of the nodes can be taken again, and entries go in and come out as of a new heap.
func TestPushBehindClear(t *testing.T) {
	p := place{0, 18, 18 + 2 + 5*4}
	w, h := built(p, halves, of(3, 1), of(1, 2), of(2, 3), of(1, 1))
	asks(t, w, push(p.room, h, of(9, 9)), answer{err: api.ErrRoom})
	w = asks(t, w, clearAll(p.room, h), answer{word: 4})
	list := []entry{of(-1, 5), of(-2, 5), of(7, 0), of(nan, 0)}
	for n, e := range list {
		w = asks(t, w, push(p.room, h, e), nothing)
		is(t, w, h, list[:n+1]...)
	}
	holds(t, w, p.room, 0)
	asks(t, w, push(p.room, h, of(9, 9)), answer{err: api.ErrRoom})
}
