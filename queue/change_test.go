package queue

import (
	"maps"
	"slices"
	"testing"

	"parley/api"
	rooms "parley/room"
)

// rows is words of queues: none, one, many, 0 and the greatest among them, some of them twice.
var rows = [][]uint64{
	nil, {0}, {5}, {top}, {0, 0}, {5, 6}, {6, 5}, {5, 5}, {top, 0}, {5, 6, 5}, {3, 2, 1}, {1, 2, 3}, {top, top, top}, {0, 0, 0, 0}, {9, 0, top, 1 << 63, 9, 4, 1<<63 - 1, 7},
}

// P23.2: Put into an empty queue and into those with words: the word is the last one, in a piece of two cells.
func TestPut(t *testing.T) {
	for _, p := range places {
		for _, had := range rows {
			for _, word := range []uint64{0, 1, 5, 1 << 63, top} {
				w, q := built(p, had...)
				w = asks(t, w, putIn(p.room, q, word), nothing)
				is(t, w, q, append(slices.Clone(had), word)...)
				holds(t, w, p.room, p.to-p.from-5-2*uint64(len(had)))
				if nodes := w.nodes(t, q); nodes[len(had)] != nodeAt(q, len(had)) {
					t.Errorf("the nodes lie at %v", nodes)
				}
			}
		}
	}
}

// P23.2: Take of the only word, of one of many, of none: its node is given back.
func TestTake(t *testing.T) {
	for _, p := range places {
		for _, had := range rows {
			w, q := built(p, had...)
			if len(had) == 0 {
				looks(t, w, takeOut(p.room, q), nothing)
				continue
			}
			w = asks(t, w, takeOut(p.room, q), tells(had[0]))
			is(t, w, q, had[1:]...)
			holds(t, w, p.room, p.to-p.from-3-2*uint64(len(had)), nodeAt(q, 0))
		}
	}
}

// P23.2: all words taken out, one behind the other, and words put in again then.
func TestTakeAll(t *testing.T) {
	for _, p := range places {
		for _, had := range rows {
			w, q := built(p, had...)
			var given []uint64
			for n, word := range had {
				w = asks(t, w, takeOut(p.room, q), tells(word))
				given = slices.Insert(given, 0, nodeAt(q, n))
				is(t, w, q, had[n+1:]...)
			}
			looks(t, w, takeOut(p.room, q), nothing)
			looks(t, w, takeOut(p.room, q), nothing)
			holds(t, w, p.room, p.to-p.from-3-2*uint64(len(had)), given...)
			w = asks(t, w, putIn(p.room, q, 8), nothing)
			w = asks(t, w, putIn(p.room, q, 0), nothing)
			is(t, w, q, 8, 0)
		}
	}
}

// P23.2: which cells come next: those that were given back last, then those that were never taken.
func TestWhichCellsComeNext(t *testing.T) {
	for _, p := range places {
		w, q := built(p, 10, 20, 30)
		w = asks(t, w, takeOut(p.room, q), tells(10))
		w = asks(t, w, takeOut(p.room, q), tells(20))
		for n, node := range []int{1, 0, 3, 4} {
			w = asks(t, w, putIn(p.room, q, 40+uint64(n)), nothing)
			nodes := w.nodes(t, q)
			if got := nodes[len(nodes)-1]; got != nodeAt(q, node) {
				t.Errorf("the node lies at %d, not at %d", got, nodeAt(q, node))
			}
		}
		is(t, w, q, 30, 40, 41, 42, 43)
	}
}

// P23.2: the cells of a node that was another's ahead have no words of it.
func TestPutIntoGivenCells(t *testing.T) {
	for _, p := range places {
		for _, had := range rows {
			w, q := built(p, had...)
			b := open(w)
			piece, err := rooms.Take(b, p.room, 2)
			if err != api.OK {
				t.Fatal(err)
			}
			b.Put(piece, 4444)
			b.Put(piece+1, q+1)
			rooms.Give(b, p.room, piece, 2)
			w = asks(t, b.words, putIn(p.room, q, 0), nothing)
			is(t, w, q, append(slices.Clone(had), 0)...)
			gave(t, w, p.room, 2)
		}
	}
}

// P23.2, P23.5: Put when no cells are left: ErrRoom, nothing was put; a word that was taken out leaves some.
func TestPutWithoutRoom(t *testing.T) {
	for _, p := range places {
		for extra := range uint64(2) {
			for many := range 3 {
				p.to = p.from + 3 + 2*uint64(many) + extra
				had := []uint64{7, 3}[:many]
				w, q := built(p, had...)
				for _, word := range []uint64{0, 4, top} {
					after := asks(t, w, putIn(p.room, q, word), answer{err: api.ErrRoom})
					if !maps.Equal(after, w) {
						t.Errorf("Put was refused, and has changed cells")
					}
				}
				if many == 0 {
					continue
				}
				w = asks(t, w, takeOut(p.room, q), tells(7))
				w = asks(t, w, putIn(p.room, q, 9), nothing)
				is(t, w, q, append(slices.Clone(had[1:]), 9)...)
				holds(t, w, p.room, extra)
			}
		}
	}
}

// P23.2: where both the room and the tx would refuse, the room's error is named first.
func TestPutAsksTheRoomFirst(t *testing.T) {
	p := place{0, 20, 21}
	b := open(laid(p))
	tx := pair{
		get: func(addr uint64) (uint64, api.Errno) {
			if addr >= 100 {
				return 3, api.ErrRange
			}
			return b.Get(addr)
		},
		put: b.Put,
	}
	if err := Put(tx, 0, 1000, 5); err != api.ErrRoom {
		t.Errorf("answers %v", err)
	}
	if b.puts() > 0 {
		t.Errorf("has put: %v", b.trace)
	}
}

// All puts and takes of a queue, in all small orders, each asked with a tx that says no.
func TestAllSmallOrders(t *testing.T) {
	const steps = 7
	p := place{40, 2, 11}
	for code := range 1 << steps {
		w, q := built(p)
		var has []uint64
		for n := range steps {
			switch word := uint64(n); {
			case code>>n&1 == 1 && len(has) == 3:
				w = asks(t, w, putIn(p.room, q, word), answer{err: api.ErrRoom})
			case code>>n&1 == 1:
				w = asks(t, w, putIn(p.room, q, word), nothing)
				has = append(has, word)
			case len(has) == 0:
				looks(t, w, takeOut(p.room, q), nothing)
			default:
				w = asks(t, w, takeOut(p.room, q), tells(has[0]))
				has = has[1:]
			}
			is(t, w, q, has...)
		}
	}
}
