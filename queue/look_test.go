package queue

import (
	"slices"
	"testing"

	"parley/api"
)

// P23.3: First, Len, Words of an empty queue, of one word, of many.
func TestLooks(t *testing.T) {
	for _, p := range places {
		for _, had := range rows {
			w, q := built(p, had...)
			looks(t, w, length(q), answer{word: uint64(len(had))})
			looks(t, w, all(q), answer{list: text(had)})
			if len(had) == 0 {
				looks(t, w, first(q), nothing)
			} else {
				looks(t, w, first(q), tells(had[0]))
			}
		}
	}
}

// P23.3: the word 0 is told beside a true, no word beside a false.
func TestTheWordNought(t *testing.T) {
	w, q := built(places[0], 0)
	looks(t, w, first(q), tells(0))
	looks(t, w, all(q), answer{list: "0"})
	looks(t, w, length(q), answer{word: 1})
	w = asks(t, w, takeOut(0, q), tells(0))
	looks(t, w, first(q), nothing)
	looks(t, w, all(q), nothing)
	looks(t, w, length(q), nothing)
}

// P23.3: queues whose own cells go round, and nodes that lie at both ends of the addresses.
func TestQueuesThatGoRound(t *testing.T) {
	// The queue's cells are the last one, 0 and 1; its nodes lie at the last ones but two and at 4.
	w := words{top: top - 2, 0: 5, 1: 2, top - 3: 8, top - 2: 5, 4: 3}
	looks(t, w, all(top), answer{list: "8 3"})
	looks(t, w, first(top), tells(8))
	looks(t, w, length(top), answer{word: 2})
	w.set(100, 30)
	w.set(101, 50)
	w = asks(t, w, takeOut(100, top), tells(8))
	is(t, w, top, 3)
	holds(t, w, 100, 20, top-3)
	w = asks(t, w, putIn(100, top, 6), nothing)
	is(t, w, top, 3, 6)
	w = asks(t, w, drop(100, top), nothing)
	holds(t, w, 100, 20, top-3, 4)
	// The greatest address and 1 is 0: the room has none then (layer 20).
	gave(t, w, 100, 3)

	// The queue's cells are the last two and 0, its node's the two ahead of these.
	w = words{top - 1: 0, top: 0, 0: 0}
	w.set(100, top-3)
	w.set(101, top)
	w = asks(t, w, putIn(100, top-1, 7), nothing)
	is(t, w, top-1, 7)
	looks(t, w, all(top-1), answer{list: "7"})

	// A node of the last two cells.
	w = words{20: top, 21: top, 22: 1, top - 1: 6}
	looks(t, w, all(20), answer{list: "6"})
	looks(t, w, first(20), tells(6))
	w = asks(t, w, takeOut(100, 20), tells(6))
	is(t, w, 20)
	gave(t, w, 100, 2, top-1)
}

// P23.3: long queues, their words in memory of their own.
func TestLongQueue(t *testing.T) {
	p := place{0, 20, 100000}
	var had []uint64
	for n := range uint64(3000) {
		had = append(had, n*7919%3001)
	}
	w, q := built(p, had...)
	b := open(w)
	got, err := Words(b, q)
	if err != api.OK || !slices.Equal(got, had) {
		t.Fatalf("Words answers %d words, %v", len(got), err)
	}
	got[0], got[1] = 99, 99
	_ = append(got, 1)
	again, err := Words(b, q)
	if err != api.OK || !slices.Equal(again, had) {
		t.Errorf("Words answers otherwise behind a change of its answer")
	}
	if n, err := Len(b, q); n != 3000 || err != api.OK {
		t.Errorf("Len answers %d, %v", n, err)
	}
	for n, word := range had {
		if got, has, err := Take(b, p.room, q); got != word || !has || err != api.OK {
			t.Fatalf("the word %d is %d, %v, %v, not %d", n, got, has, err, word)
		}
	}
	is(t, b.words, q)
}
