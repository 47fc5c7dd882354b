package list

import (
	"slices"
	"testing"

	"parley/api"
)

// around is words at, below and above each key, and at the edges.
func around(keys []uint64) []uint64 {
	asked := []uint64{0, 1, 1<<63 - 1, 1 << 63, top - 1, top}
	for _, key := range keys {
		asked = append(asked, key-1, key, key+1)
	}
	return asked
}

// P21.4: Has, Len, Above, First, Keys of an empty list, of one key, of many.
func TestLooks(t *testing.T) {
	lists := [][]uint64{
		nil, {0}, {1}, {5}, {top}, {top - 1}, {0, top}, {top, 0}, {2, 5}, {5, 2}, {5, 9, 2}, {0, 1, 2}, {top, top - 1, top - 2},
		{1 << 63, 1<<63 - 1}, {1 << 32, 1, 1<<32 + 1, 0}, {30, 7, 22, 19, 1, 4, 60, 12},
	}
	for _, p := range places {
		for _, had := range lists {
			w, l := built(p, had...)
			rising := slices.Sorted(slices.Values(had))
			looks(t, w, length(l), answer{word: uint64(len(had))})
			looks(t, w, keys(l), answer{list: text(rising)})
			if len(had) == 0 {
				looks(t, w, first(l), no)
			} else {
				looks(t, w, first(l), tells(rising[0]))
			}
			for _, key := range around(had) {
				at, there := slices.BinarySearch(rising, key)
				looks(t, w, has(l, key), answer{has: there})
				if there {
					at++
				}
				if at < len(rising) {
					looks(t, w, above(l, key), tells(rising[at]))
				} else {
					looks(t, w, above(l, key), no)
				}
			}
		}
	}
}

// P21.4: what is above 0 is not 0, and the key 0 is told beside a true.
func TestTheKeyNought(t *testing.T) {
	w, l := built(places[0], 0)
	looks(t, w, first(l), tells(0))
	looks(t, w, has(l, 0), yes)
	looks(t, w, above(l, 0), no)
	looks(t, w, keys(l), answer{list: "0"})
	w, l = built(places[0])
	looks(t, w, first(l), no)
	looks(t, w, has(l, 0), no)
	looks(t, w, keys(l), no)
}

// P21.4: lists at the edges of words: their own cells, and their nodes', go round.
func TestListsThatGoRound(t *testing.T) {
	// The list's count is the last of all cells; its nodes lie at 0 + 4, at the last but one.
	w := words{top: 2, 0: 5, 4: 3, 5: top, top - 1: 8}
	// The second node's second cell is the list's count, which would lead on: it is no sound list.
	looks(t, w, keys(top), answer{err: api.ErrList})

	w = words{top: 2, 0: 5, 4: 3, 5: top - 1, top - 2: 8}
	looks(t, w, keys(top), answer{list: "3 8"})
	looks(t, w, has(top, 8), yes)
	looks(t, w, above(top, 3), tells(8))
	looks(t, w, above(top, 8), no)
	looks(t, w, first(top), tells(3))
	looks(t, w, length(top), answer{word: 2})

	w = words{top - 1: 1, top: top, 0: 77}
	// Its one node begins at the cell before the list's own.
	w[top-1], w[top] = 1, top-2
	w[top-3], w[top-2] = 6, 0
	looks(t, w, keys(top-1), answer{list: "6"})
	looks(t, w, first(top-1), tells(6))
}

// P21.4: long lists, their keys in memory of their own.
func TestLongList(t *testing.T) {
	p := place{0, 18, 100000}
	var had []uint64
	for n := range uint64(3000) {
		had = append(had, n*7919%3001*3)
	}
	w, l := built(p, had...)
	b := open(w)
	got, err := Keys(b, l)
	want := slices.Sorted(slices.Values(had))
	if err != api.OK || !slices.Equal(got, want) {
		t.Fatalf("Keys answers %d keys, %v", len(got), err)
	}
	got[0], got[1] = 99, 99
	_ = append(got, 1)
	if again, err := Keys(b, l); err != api.OK || !slices.Equal(again, want) {
		t.Errorf("Keys answers otherwise behind a change of its answer")
	}
	for _, key := range []uint64{0, 3, 4, 8997, 8999, 9000, 9003} {
		_, there := slices.BinarySearch(want, key)
		if got, err := Has(b, l, key); got != there || err != api.OK {
			t.Errorf("Has(%d) answers %v, %v", key, got, err)
		}
	}
	if n, err := Clear(b, p.room, l); n != 3000 || err != api.OK {
		t.Errorf("Clear answers %d, %v", n, err)
	}
	is(t, b.words, l)
}
