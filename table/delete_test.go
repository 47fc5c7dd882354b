package table

import (
	"testing"

	"parley/api"
	rooms "parley/room"
)

// P25.4: Delete of keys that are there and of such as are not, near them: each get and each put in its order, and what is left.
func TestDelete(t *testing.T) {
	for _, p := range places {
		for _, list := range some() {
			w := sow(p, list...)
			for _, key := range near(list) {
				s := w.spotOf(p.at, key)
				value, has := valueOf(list, key)
				switch {
				case s.word == 0:
					asks(t, w, deletes(p.room, p.at, key), none, s.way())
				case !has:
					asks(t, w, deletes(p.room, p.at, key), none, s.way(), one(get(s.leaf())))
				default:
					got := asks(t, w, deletes(p.room, p.at, key), is(value), s.way(), one(get(s.leaf()), get(s.leaf()+1), put(s.end(), 0)), gives(p.room, 2, s.leaf(), 0))
					asks(t, got, gets(p.at, key), none, s.way())
					asks(t, got, deletes(p.room, p.at, key), none, s.way())
					// The nodes stay.
					asks(t, got, depth(p.at, key), answer{word: uint64(len(s.cells) - 1)}, s.way())
				}
			}
		}
	}
}

// P25.4: all keys of a map, deleted one behind the other: what was given back is the next one out of the room, the last one first.
func TestDeletedLeavesComeNext(t *testing.T) {
	for _, p := range places {
		for _, list := range some() {
			w := sow(p, list...)
			next, last := w[p.room], uint64(0)
			var leaves []uint64
			for _, e := range list {
				s := w.spotOf(p.at, e.key)
				w = asks(t, w, deletes(p.room, p.at, e.key), is(e.value), s.way(), one(get(s.leaf()), get(s.leaf()+1), put(s.end(), 0)), gives(p.room, 2, s.leaf(), last))
				last = s.leaf() + 1
				leaves = append(leaves, s.leaf())
			}
			for n := range leaves {
				leaf, key := leaves[len(leaves)-1-n], list[n].key
				ahead := uint64(0)
				if n+1 < len(leaves) {
					ahead = leaves[len(leaves)-2-n] + 1
				}
				s := w.spotOf(p.at, key)
				if s.word != 0 {
					t.Fatalf("the end of %d has %d", key, s.word)
				}
				w = asks(t, w, puts(p.room, p.at, key, uint64(n)), none, s.way(), again(p.room, 2, leaf, ahead), leafPuts(leaf, key, uint64(n), s.end()))
			}
			if w[p.room] != next {
				t.Errorf("cells were taken that were never taken, though leaves were given back")
			}
		}
	}
}

// P25.4: Delete, cell by cell: behind a node, with a leaf that was given back ahead.
func TestDeleteByHand(t *testing.T) {
	key := keyOf("7b")
	w := words{5: 9, 27: 2*60 + 2, 71: 2*44 + 1, 44: key, 45: 1000}
	room := uint64(2)
	got := asks(t, w, deletes(room, 20, key), is(1000), one(get(27), get(71), get(44), get(45), put(71, 0), get(5), put(44, 9), put(5, 45)))
	if list, err := rooms.Given(open(got), room, 2); len(list) != 2 || list[0] != 44 || list[1] != 8 || err != api.OK {
		t.Errorf("given back were %v, %v", list, err)
	}
	// Another one's leaf, and none.
	asks(t, w, deletes(room, 20, keyOf("7bb")), none, one(get(27), get(71), get(44)))
	asks(t, w, deletes(room, 20, keyOf("7a")), none, one(get(27), get(70)))
	asks(t, w, deletes(room, 20, keyOf("6b")), none, one(get(26)))
}
