package list

import (
	"testing"

	"parley/api"
)

// P21.2: New.
func TestNew(t *testing.T) {
	for _, p := range places {
		size := p.to - p.from
		w := asks(t, laid(p), lay(p.room), answer{word: p.from})
		is(t, w, p.from)
		holds(t, w, p.room, size-2)
		w = asks(t, w, lay(p.room), answer{word: p.from + 2})
		is(t, w, p.from)
		is(t, w, p.from+2)
		holds(t, w, p.room, size-4)
	}
}

// P21.1, P21.2: New out of a room with few cells.
func TestNewOfFewCells(t *testing.T) {
	for _, p := range places {
		for cells := uint64(0); cells < 2; cells++ {
			p.to = p.from + cells
			w := laid(p)
			asks(t, w, lay(p.room), answer{err: api.ErrRoom})
		}
		p.to = p.from + 2
		w := asks(t, laid(p), lay(p.room), answer{word: p.from})
		is(t, w, p.from)
		holds(t, w, p.room, 0)
		asks(t, w, lay(p.room), answer{err: api.ErrRoom})
	}
}

// P21.2: New of cells that were given back has no words of theirs.
func TestNewOfGivenCells(t *testing.T) {
	for _, p := range places {
		w, l := built(p, 5)
		w = asks(t, w, drop(p.room, l), no)
		// The list's own cells come first, then the node's.
		w = asks(t, w, lay(p.room), answer{word: l})
		is(t, w, l)
		w = asks(t, w, lay(p.room), answer{word: l + 2})
		is(t, w, l+2)
		is(t, w, l)
	}
}

// P21.2: Drop of an empty list, and of those with keys, whatever order these came in.
func TestDrop(t *testing.T) {
	for _, p := range places {
		size := p.to - p.from
		l := p.from
		node := func(n uint64) uint64 { return l + 2 + 2*n }

		w, _ := built(p)
		w = asks(t, w, drop(p.room, l), no)
		holds(t, w, p.room, size-2, l)

		w, _ = built(p, 7)
		w = asks(t, w, drop(p.room, l), no)
		holds(t, w, p.room, size-4, l, node(0))

		w, _ = built(p, 5, 2, top, 0)
		w = asks(t, w, drop(p.room, l), no)
		// By keys: 0 the fourth node, 2 the second, 5 the first, the greatest the third. The last one that was given back is told first.
		holds(t, w, p.room, size-10, l, node(2), node(0), node(1), node(3))
	}
}

// P21.2: Drop behind pieces that were given back ahead.
func TestDropBehindGiven(t *testing.T) {
	p := places[0]
	w, l := built(p, 1, 2, 3)
	w = asks(t, w, remove(p.room, l, 2), yes)
	w = asks(t, w, drop(p.room, l), no)
	holds(t, w, p.room, p.to-p.from-8, l, l+6, l+2, l+4)
}
