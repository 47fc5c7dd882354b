package room

import (
	"slices"
	"testing"

	"parley/api"
	"parley/cells"
)

// P20.1 to P20.4: no tx; ErrNil comes ahead of ErrArg.
func TestNoTx(t *testing.T) {
	calls := map[string]call{
		"Lay": lay(0, 20, 30), "Lay of no stretch": lay(0, 30, 20),
		"Take": take(0, 4), "Take of nothing": take(0, 0), "Take of too much": take(0, 17), "Take of very much": take(0, top),
		"Give": give(0, 20, 4), "Give of nothing": give(0, 20, 0), "Give of too much": give(0, 20, 17),
		"Left": left(0), "Left at the last cell": left(top),
		"Given": given(0, 4), "Given of nothing": given(0, 0), "Given of too much": given(0, top),
	}
	for name, c := range calls {
		if got := c(nil); got != (answer{err: api.ErrNil}) {
			t.Errorf("%s answers %v", name, got)
		}
	}
}

// pair is a tx that can't be compared, and no pointer.
type pair struct {
	get func(uint64) (uint64, api.Errno)
	put func(addr, word uint64) api.Errno
}

func (p pair) Get(addr uint64) (uint64, api.Errno) { return p.get(addr) }

func (p pair) Put(addr, word uint64) api.Errno { return p.put(addr, word) }

// hollow is a tx whose pointer is nil: it is there all the same, and is asked.
type hollow struct{}

func (h *hollow) Get(uint64) (uint64, api.Errno) { return 5, api.ErrFuel }

func (h *hollow) Put(uint64, uint64) api.Errno { return api.ErrFuel }

// Of a tx nothing but its methods is known.
func TestAnyTx(t *testing.T) {
	var h *hollow
	for _, c := range []call{lay(0, 20, 30), take(0, 4), give(0, 20, 4), left(0), given(0, 4)} {
		if got := c(h); got != (answer{err: api.ErrFuel}) {
			t.Errorf("answers %v", got)
		}
	}

	b := open(words{})
	tx := pair{get: b.Get, put: b.Put}
	did := []answer{
		lay(0, 20, 30)(tx), take(0, 4)(tx), take(0, 4)(tx), give(0, 20, 4)(tx), give(0, 24, 4)(tx),
		given(0, 4)(tx), left(0)(tx), take(0, 4)(tx), take(0, 3)(tx),
	}
	want := []answer{
		{}, {word: 20}, {word: 24}, {}, {},
		{list: "24 20"}, {word: 2}, {word: 24}, {err: api.ErrRoom},
	}
	if !slices.Equal(did, want) {
		t.Errorf("answers %v, not %v", did, want)
	}
}

// overRow is a tx over a row of layer 1: addresses behind its last cell are refused.
type overRow struct{ row *cells.Row }

func (o overRow) Get(addr uint64) (uint64, api.Errno) { return o.row.Load(addr) }

func (o overRow) Put(addr, word uint64) api.Errno { return o.row.Store(addr, word) }

// A header, or a piece, that does not stand in the cells: the tx says so, and what was put till then is put.
func TestOverARow(t *testing.T) {
	row, _ := cells.Of(9, 9, 9, 9, 9, 9, 9, 9, 9, 9)
	tx := overRow{row}
	asks := func(c call, want answer, has ...uint64) {
		t.Helper()
		if got := c(tx); got != want {
			t.Errorf("answers %v, not %v", got, want)
		}
		if got := row.Words(); !slices.Equal(got, has) {
			t.Errorf("the cells are %v, not %v", got, has)
		}
	}
	none := answer{err: api.ErrRange}
	asks(lay(0, 7, 50), none, 7, 50, 0, 0, 0, 0, 0, 0, 0, 0)
	asks(take(0, 2), fine(7), 9, 50, 0, 0, 0, 0, 0, 0, 0, 0)
	asks(give(0, 7, 2), fine(), 9, 50, 0, 8, 0, 0, 0, 0, 0, 0)
	asks(given(0, 2), answer{list: "7"}, 9, 50, 0, 8, 0, 0, 0, 0, 0, 0)
	asks(give(0, 10, 3), none, 9, 50, 0, 8, 0, 0, 0, 0, 0, 0)
	asks(take(0, 9), none, 9, 50, 0, 8, 0, 0, 0, 0, 0, 0)
	asks(give(0, 6, 9), none, 9, 50, 0, 8, 0, 0, 0, 0, 0, 0)
	asks(given(0, 9), none, 9, 50, 0, 8, 0, 0, 0, 0, 0, 0)
	asks(left(9), none, 9, 50, 0, 8, 0, 0, 0, 0, 0, 0)
	asks(left(10), none, 9, 50, 0, 8, 0, 0, 0, 0, 0, 0)
	// The head of the size 8 at the last cell but one of all cells is the cell 7.
	asks(give(top-1, 5, 8), fine(), 9, 50, 0, 8, 0, 0, 0, 6, 0, 0)
	asks(take(top-1, 8), fine(5), 9, 50, 0, 8, 0, 0, 0, 0, 0, 0)
	asks(take(top-1, 8), none, 9, 50, 0, 8, 0, 0, 0, 0, 0, 0)
	asks(left(top), none, 9, 50, 0, 8, 0, 0, 0, 0, 0, 0)
}

// All calls end and none panics, whatever stands in the cells, and whatever they are handed.
func TestAnyCells(t *testing.T) {
	d := drawn(3)
	edges := []uint64{0, 1, 2, 15, 16, 17, 18, 19, 20, 40, 1 << 32, 1 << 63, top - 1, top}
	edge := func() uint64 {
		if d.below(3) > 0 {
			return uint64(d.below(24))
		}
		return edges[d.below(len(edges))]
	}
	for range 20000 {
		b := open(words{})
		for range d.below(40) {
			b.words.set(edge(), edge())
		}
		var c call
		switch at := edge(); d.below(5) {
		case 0:
			c = lay(at, edge(), edge())
		case 1:
			c = take(at, edge())
		case 2:
			c = give(at, edge(), edge())
		case 3:
			c = left(at)
		default:
			// Rings are long; they have tests of their own.
			if d.below(50) > 0 {
				continue
			}
			c = given(at, edge())
		}
		got := c(b)
		if got.err != api.OK && (got.word != 0 || got.list != "") {
			t.Fatalf("answers %v", got)
		}
		if got.err != api.OK && got.err != api.ErrArg && got.err != api.ErrRoom {
			t.Fatalf("answers %v", got.err)
		}
	}
}
