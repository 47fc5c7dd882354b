package skip

import (
	"slices"
	"testing"

	"parley/api"
	"parley/cells"
	rooms "parley/room"
)

// every is all calls, on a set at at in a room.
func every(room, at, x uint64) map[string]call {
	return map[string]call{
		"Lay": lay(at), "New": fresh(room), "Insert": insert(room, at, x, 1), "Insert of a level": insert(room, at, x, -7), "Remove": remove(room, at, x), "Has": has(at, x),
		"First": first(at), "After": after(at, x), "Keys": keys(at), "Len": length(at),
	}
}

// Errors: no tx.
func TestNoTx(t *testing.T) {
	for _, at := range []uint64{0, 18, top} {
		for _, x := range []uint64{0, 5, top} {
			for name, c := range every(0, at, x) {
				if got := c(nil); got != (answer{err: api.ErrNil}) {
					t.Errorf("%s answers %v", name, got)
				}
			}
		}
	}
}

// hollow is a tx whose pointer is nil: it is there all the same, and is asked.
type hollow struct{}

func (h *hollow) Get(uint64) (uint64, api.Errno) { return 5, api.ErrFuel }

func (h *hollow) Put(uint64, uint64) api.Errno { return api.ErrFuel }

// pair is a tx that can't be compared, and no pointer.
type pair struct {
	get func(uint64) (uint64, api.Errno)
	put func(addr, word uint64) api.Errno
}

func (p pair) Get(addr uint64) (uint64, api.Errno) { return p.get(addr) }

func (p pair) Put(addr, word uint64) api.Errno { return p.put(addr, word) }

// Of a tx nothing but its methods is known.
func TestAnyTx(t *testing.T) {
	var h *hollow
	for name, c := range every(0, 18, 5) {
		if got := c(h); got != (answer{err: api.ErrFuel}) {
			t.Errorf("%s answers %v", name, got)
		}
	}

	b := open(newShelf(place{0, 40, 100, 20}).words)
	tx := pair{get: b.Get, put: b.Put}
	did := []answer{
		lay(20)(tx), fresh(0)(tx), insert(0, 20, 5, 3)(tx), insert(0, 40, 2, 1)(tx), insert(0, 20, 5, 2)(tx), keys(20)(tx), length(40)(tx),
		remove(0, 20, 2)(tx), remove(0, 40, 2)(tx), keys(40)(tx), first(20)(tx), after(20, 4)(tx), has(20, 5)(tx),
	}
	want := []answer{no, {word: 40}, yes, yes, no, {list: "5"}, {word: 1}, no, yes, no, tells(5), tells(5), yes}
	if !slices.Equal(did, want) {
		t.Errorf("answers %v, not %v", did, want)
	}
}

// overRow is a tx over a row of layer 1: addresses behind its last cell are refused.
type overRow struct{ row *cells.Row }

func (o overRow) Get(addr uint64) (uint64, api.Errno) { return o.row.Load(addr) }

func (o overRow) Put(addr, word uint64) api.Errno { return o.row.Store(addr, word) }

// Errors: sets and nodes that do not stand in the cells: the tx says so.
func TestOverARow(t *testing.T) {
	row, _ := cells.New(50)
	tx := overRow{row}
	is := func(c call, want answer) {
		t.Helper()
		if got := c(tx); got != want {
			t.Errorf("answers %v, not %v", got, want)
		}
	}
	out := answer{err: api.ErrRange}
	// More than there are: the tx refuses what the room does not.
	rooms.Lay(tx, 0, 30, 1000)
	is(lay(20), no)
	is(lay(42), no)
	is(lay(43), out)
	is(lay(top), out)
	for x := range uint64(6) {
		is(insert(0, 20, 10-x, 1), yes)
	}
	is(insert(0, 20, 3, 1), out)
	// What was put till then is put: the word, and the level, and not the link.
	if w, _ := row.Load(48); w != 3 {
		t.Errorf("the cell 48 has %d", w)
	}
	is(keys(20), answer{list: "5 6 7 8 9 10"})
	is(fresh(0), out)
	for name, c := range every(0, 50, 5) {
		if name != "New" {
			if got := c(tx); got != out {
				t.Errorf("%s of a set behind the cells answers %v", name, got)
			}
		}
	}
	// A room behind the cells.
	is(fresh(45), out)
	is(insert(45, 20, 77, 3), out)
	is(remove(46, 20, 7), out)
	is(insert(1000, 20, 8, 3), no)
	is(remove(1000, 20, 11), no)
	// A link that leads behind the cells, on the level 7.
	row.Store(27, 1000)
	is(has(20, 5), out)
	is(after(20, 5), out)
	is(insert(0, 20, 5, 1), out)
	is(remove(0, 20, 5), out)
	is(first(20), tells(5))
	is(length(20), answer{word: 5})
}

// Errors: what the room's cells say is asked of the tx, and refused by it.
func TestARoomThatIsRefused(t *testing.T) {
	s := set(place{1000, 30, 80, 3}, piece{word: 4, level: 2}, piece{word: 9, level: 1})
	for name, c := range map[string]call{"New": fresh(1000), "Insert": insert(1000, 3, 5, 2), "Remove": remove(1000, 3, 4)} {
		b := open(s.words)
		tx := pair{
			get: func(addr uint64) (uint64, api.Errno) {
				if addr >= 1000 {
					return 3, api.ErrStopped
				}
				return b.Get(addr)
			},
			put: b.Put,
		}
		if got := c(tx); got != (answer{err: api.ErrStopped}) {
			t.Errorf("%s answers %v", name, got)
		}
	}
}
