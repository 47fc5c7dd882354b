package list

import (
	"slices"
	"testing"

	"parley/api"
	"parley/cells"
	rooms "parley/room"
)

// every is all calls, on a list at l in a room.
func every(room, l, key uint64) map[string]call {
	return map[string]call{
		"New": lay(room), "Insert": insert(room, l, key), "Remove": remove(room, l, key), "Has": has(l, key), "Len": length(l),
		"Above": above(l, key), "First": first(l), "Keys": keys(l), "Clear": clearAll(room, l), "Drop": drop(room, l),
	}
}

// P21.1: no tx.
func TestNoTx(t *testing.T) {
	for _, l := range []uint64{0, 18, top} {
		for _, key := range []uint64{0, 5, top} {
			for name, c := range every(0, l, key) {
				if got := c(nil); got != (answer{err: api.ErrNil}) {
					t.Errorf("%s answers %v", name, got)
				}
			}
		}
	}
}

// hollow is a tx whose pointer is nil: it is there all the same, and is asked.
type hollow struct{}

func (h *hollow) Get(uint64) (uint64, api.Errno) { return 5, api.ErrFuel }

func (h *hollow) Put(uint64, uint64) api.Errno { return api.ErrFuel }

// pair is a tx that can't be compared, and no pointer.
type pair struct {
	get func(uint64) (uint64, api.Errno)
	put func(addr, word uint64) api.Errno
}

func (p pair) Get(addr uint64) (uint64, api.Errno) { return p.get(addr) }

func (p pair) Put(addr, word uint64) api.Errno { return p.put(addr, word) }

// Of a tx nothing but its methods is known.
func TestAnyTx(t *testing.T) {
	var h *hollow
	for name, c := range every(0, 18, 5) {
		if got := c(h); got != (answer{err: api.ErrFuel}) {
			t.Errorf("%s answers %v", name, got)
		}
	}

	b := open(laid(place{0, 18, 60}))
	tx := pair{get: b.Get, put: b.Put}
	did := []answer{
		lay(0)(tx), insert(0, 18, 5)(tx), insert(0, 18, 2)(tx), insert(0, 18, 5)(tx), keys(18)(tx), length(18)(tx),
		remove(0, 18, 2)(tx), clearAll(0, 18)(tx), keys(18)(tx), drop(0, 18)(tx), lay(0)(tx),
	}
	want := []answer{{word: 18}, yes, yes, no, {list: "2 5"}, {word: 2}, yes, {word: 1}, no, no, {word: 18}}
	if !slices.Equal(did, want) {
		t.Errorf("answers %v, not %v", did, want)
	}
}

// overRow is a tx over a row of layer 1: addresses behind its last cell are refused.
type overRow struct{ row *cells.Row }

func (o overRow) Get(addr uint64) (uint64, api.Errno) { return o.row.Load(addr) }

func (o overRow) Put(addr, word uint64) api.Errno { return o.row.Store(addr, word) }

// P21.1: lists and nodes that do not stand in the cells: the tx says so.
func TestOverARow(t *testing.T) {
	row, _ := cells.New(30)
	tx := overRow{row}
	is := func(c call, want answer) {
		t.Helper()
		if got := c(tx); got != want {
			t.Errorf("answers %v, not %v", got, want)
		}
	}
	out := answer{err: api.ErrRange}
	// More than there are: the tx refuses what the room does not.
	rooms.Lay(tx, 0, 18, 60)
	is(lay(0), answer{word: 18})
	for key := range uint64(5) {
		is(insert(0, 18, 10-key), yes)
	}
	is(keys(18), answer{list: "6 7 8 9 10"})
	is(insert(0, 18, 5), out)
	is(keys(18), answer{list: "6 7 8 9 10"})
	is(lay(0), out)

	for name, c := range every(0, 30, 5) {
		if name != "New" {
			if got := c(tx); got != out {
				t.Errorf("%s of a list behind the cells answers %v", name, got)
			}
		}
	}
	// A list whose count is the last cell, which is what leads on from the last node that was put in.
	is(length(29), answer{word: 27})
	is(first(29), out)
	is(keys(29), out)
	// A room behind the cells.
	is(lay(29), out)
	is(insert(28, 18, 77), out)
	is(insert(1000, 18, 7), no)
	is(remove(1000, 18, 11), no)
	// A node that leads behind the cells.
	row.Store(19, 1000)
	is(has(18, 5), out)
	is(keys(18), out)
	is(clearAll(0, 18), out)
	is(drop(0, 18), out)
	is(length(18), answer{word: 5})
}

// P21.1: what the room's cells say is asked of the tx, and refused by it.
func TestARoomThatIsRefused(t *testing.T) {
	p := place{1000, 18, 60}
	w, l := built(p, 4, 9)
	for name, c := range map[string]call{"New": lay(1000), "Insert": insert(1000, l, 5), "Remove": remove(1000, l, 4), "Clear": clearAll(1000, l), "Drop": drop(1000, l)} {
		b := open(w)
		tx := pair{
			get: func(addr uint64) (uint64, api.Errno) {
				if addr >= 1000 {
					return 3, api.ErrStopped
				}
				return b.Get(addr)
			},
			put: b.Put,
		}
		if got := c(tx); got != (answer{err: api.ErrStopped}) {
			t.Errorf("%s answers %v", name, got)
		}
	}
}
