package skip

import (
	"testing"

	"parley/api"
	rooms "parley/room"
)

// P22.1: Lay puts 0 into the 8 cells, rising, whatever they had; and anew.
func TestLay(t *testing.T) {
	for _, p := range places {
		s := newShelf(p)
		s.lay(t, p.at)
		s.tellsAll(t, p.at)
		s.insert(t, p.at, 5, 8)
		s.lay(t, p.at)
		s.tellsAll(t, p.at)
		s.looks(t, p.at, 5)
	}
	if Levels != 8 {
		t.Errorf("there are %d levels", Levels)
	}
}

// P22.1: each put of Lay, written out.
func TestLayByHand(t *testing.T) {
	asks(t, words{20: 7, 27: 8, 28: 9}, lay(20), no, []access{put(20, 0), put(21, 0), put(22, 0), put(23, 0), put(24, 0), put(25, 0), put(26, 0), put(27, 0)})
	asks(t, words{}, lay(top-1), no, []access{put(top-1, 0), put(top, 0), put(0, 0), put(1, 0), put(2, 0), put(3, 0), put(4, 0), put(5, 0)})
}

// P22.1: New takes 8 cells of the room, and lays them; till it has no 8 left.
func TestNew(t *testing.T) {
	for _, p := range places {
		for extra := range uint64(8) {
			p.to = p.from + 16 + extra
			s := newShelf(p)
			s.fresh(t)
			s.fresh(t)
			s.fresh(t)
			if len(s.sets) != 2 {
				t.Errorf("there are %d sets", len(s.sets))
			}
			s.tellsAll(t, p.from)
			s.tellsAll(t, p.from+8)
		}
		for few := range uint64(8) {
			p.to = p.from + few
			s := newShelf(p)
			s.fresh(t)
			if len(s.sets) != 0 {
				t.Errorf("a set of %d cells", few)
			}
		}
	}
}

// P22.1: New of cells that were given back has no words of theirs; a node of the level 6 has as many.
func TestNewOfGivenCells(t *testing.T) {
	for _, p := range places {
		s := set(p, piece{word: 5, level: 6}, piece{word: 9, level: 6})
		s.remove(t, p.at, 9)
		s.remove(t, p.at, 5)
		s.fresh(t)
		s.fresh(t)
		s.fresh(t)
		for n := range uint64(3) {
			at := p.from + 8*n
			if _, ok := s.sets[at]; !ok {
				t.Errorf("there is no set at %d", at)
			}
			s.tellsAll(t, at)
		}
	}
}

// P22.1: each get and put of New, written out.
func TestNewByHand(t *testing.T) {
	w := words{0: 40, 1: 100}
	zeros := []access{put(40, 0), put(41, 0), put(42, 0), put(43, 0), put(44, 0), put(45, 0), put(46, 0), put(47, 0)}
	asks(t, w, fresh(0), answer{word: 40}, append([]access{get(9), get(0), get(1), put(0, 48)}, zeros...))
	w = words{0: 48, 1: 100, 9: 41, 40: 61}
	asks(t, w, fresh(0), answer{word: 40}, append([]access{get(9), get(40), put(9, 61)}, zeros...))
	w = words{0: 93, 1: 100}
	asks(t, w, fresh(0), noRoom, []access{get(9), get(0), get(1)})
}

// P22.1: what the room refuses, New refuses.
func TestNewOfNoRoom(t *testing.T) {
	b := open(words{})
	if err := rooms.Lay(b, 0, 30, 30); err != api.OK {
		t.Fatal(err)
	}
	asks(t, b.words(), fresh(0), noRoom, []access{get(9), get(0), get(1)})
	asks(t, words{}, fresh(7), noRoom, []access{get(16), get(7), get(8)})
}
