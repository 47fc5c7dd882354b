package table

import (
	"slices"
	"testing"

	"parley/api"
	"parley/cells"
	rooms "parley/room"
)

// every is all calls that go by a tx, on a map at a place in a room.
func every(room, at, key, value uint64) map[string]call {
	return map[string]call{
		"Lay": lay(at), "New": lays(room), "Put": puts(room, at, key, value), "Get": gets(at, key), "Delete": deletes(room, at, key), "Add": adds(room, at, key, value),
		"All": allOf(at), "Keys": keysOf(at), "Len": length(at), "Depth": depth(at, key),
	}
}

// P25.1 to P25.5: no tx; that comes ahead of all else.
func TestNoTx(t *testing.T) {
	for _, at := range []uint64{0, 20, top} {
		for _, key := range []uint64{0, 1, top} {
			for name, c := range every(0, at, key, 9) {
				if got := c(nil); got != no(api.ErrNil) {
					t.Errorf("%s answers %v", name, got)
				}
			}
		}
	}
	if list, _ := All(nil, 20); list != nil {
		t.Errorf("All answers %v beside an error", list)
	}
	if list, _ := Keys(nil, 20); list != nil {
		t.Errorf("Keys answers %v beside an error", list)
	}
}

// hollow is a tx whose pointer is nil: it is there all the same, and is asked.
type hollow struct{}

func (h *hollow) Get(uint64) (uint64, api.Errno) { return 5, api.ErrFuel }

func (h *hollow) Put(uint64, uint64) api.Errno { return api.ErrFuel }

// pair is a tx that can't be compared, and no pointer.
type pair struct {
	get func(uint64) (uint64, api.Errno)
	put func(addr, word uint64) api.Errno
}

func (p pair) Get(addr uint64) (uint64, api.Errno) { return p.get(addr) }

func (p pair) Put(addr, word uint64) api.Errno { return p.put(addr, word) }

// Of a tx nothing but its methods is known.
func TestAnyTx(t *testing.T) {
	var h *hollow
	for name, c := range every(0, 20, 1, 2) {
		if got := c(h); got != no(api.ErrFuel) {
			t.Errorf("%s answers %v", name, got)
		}
	}

	b := open(laid(place{20, 0, 40, 200}))
	tx := pair{get: b.Get, put: b.Put}
	did := []answer{
		lays(0)(tx), puts(0, 40, 1, 5)(tx), puts(0, 40, 1, 6)(tx), adds(0, 40, 1, 2)(tx), adds(0, 40, 2, 9)(tx), allOf(40)(tx), keysOf(40)(tx), length(40)(tx),
		gets(40, 1)(tx), deletes(0, 40, 1)(tx), deletes(0, 40, 1)(tx), depth(40, 1)(tx), lay(40)(tx), length(40)(tx),
	}
	want := []answer{
		{word: 40}, none, is(5), {word: 8}, {word: 9}, {list: "[{1 8} {2 9}]"}, {list: "[1 2]"}, {word: 2},
		is(8), is(8), none, none, none, none,
	}
	if !slices.Equal(did, want) {
		t.Errorf("answers %v, not %v", did, want)
	}
}

// A tx that says no to gets alone, or to puts alone: the calls that need them answer that.
func TestATxOfGetsOrPutsAlone(t *testing.T) {
	list := some()[4]
	w := sow(place{20, 0, 40, 400}, list...)
	for name, c := range every(0, 20, list[1].key, 5) {
		b := open(w)
		noPut := pair{get: b.Get, put: func(uint64, uint64) api.Errno { return api.ErrFull }}
		looks := slices.Contains([]string{"Get", "All", "Keys", "Len", "Depth"}, name)
		if got := c(noPut); looks == (got == no(api.ErrFull)) {
			t.Errorf("%s without puts answers %v", name, got)
		}
		b = open(w)
		noGet := pair{get: func(uint64) (uint64, api.Errno) { return 44, api.ErrStale }, put: b.Put}
		if got := c(noGet); name != "Lay" && (got != no(api.ErrStale) || b.puts() > 0) {
			t.Errorf("%s without gets answers %v", name, got)
		}
	}
	// Lay gets nothing, and a Delete of what is not there puts nothing.
	b := open(w)
	noGet := pair{get: func(uint64) (uint64, api.Errno) { return 44, api.ErrStale }, put: b.Put}
	if got := lay(20)(noGet); got != none {
		t.Errorf("Lay answers %v", got)
	}
	b = open(w)
	noPut := pair{get: b.Get, put: func(uint64, uint64) api.Errno { return api.ErrFull }}
	for _, key := range []uint64{keyOf("1"), keyOf("9001"), keyOf("911")} {
		if got := deletes(0, 20, key)(noPut); got != none {
			t.Errorf("Delete answers %v", got)
		}
	}
}

// overRow is a tx over a row of layer 1: addresses behind its last cell are refused.
type overRow struct{ row *cells.Row }

func (o overRow) Get(addr uint64) (uint64, api.Errno) { return o.row.Load(addr) }

func (o overRow) Put(addr, word uint64) api.Errno { return o.row.Store(addr, word) }

// Maps, leaves and nodes of which cells are not there: the tx says so, and that error comes at once; what was put till then is put.
func TestOverARow(t *testing.T) {
	row, _ := cells.New(60)
	tx := overRow{row}
	asked := func(c call, want answer) {
		t.Helper()
		if got := c(tx); got != want {
			t.Errorf("answers %v, not %v", got, want)
		}
	}
	out := no(api.ErrRange)
	// The room says that there are more cells than there are: the tx refuses what the room does not.
	rooms.Lay(tx, 0, 40, 80)
	asked(lay(20), none)
	asked(puts(0, 20, keyOf("3"), 1), none)
	asked(puts(0, 20, keyOf("35"), 2), none)
	asked(allOf(20), answer{list: text(cellsOf([]entry{{keyOf("3"), 1}, {keyOf("35"), 2}}))})
	asked(gets(20, keyOf("35")), is(2))
	// There is no leaf behind the last cell.
	asked(puts(0, 20, keyOf("4"), 3), out)
	asked(adds(0, 20, keyOf("4"), 3), out)
	asked(gets(20, keyOf("4")), none)
	asked(puts(0, 20, keyOf("3"), 4), is(1))
	asked(lays(0), out)

	for name, c := range every(1000, 60, 1, 2) {
		if got := c(tx); got != out {
			t.Errorf("%s of a map behind the cells answers %v", name, got)
		}
	}
	// A header whose last cells are not there.
	for cell := uint64(44); cell < 60; cell++ {
		row.Store(cell, 0)
	}
	for name, c := range every(0, 50, keyOf("c"), 2) {
		if got := c(tx); name != "New" && got != out {
			t.Errorf("%s of a map whose end is not there answers %v", name, got)
		}
	}
	asked(gets(50, keyOf("9")), none)
	asked(depth(50, keyOf("9")), none)
	asked(depth(50, keyOf("a")), out)
}

// Slots that lead to cells that are not there: that error at the first of them that is asked for.
func TestSlotsThatLeadBehindTheCells(t *testing.T) {
	key := keyOf("ab")
	row, _ := cells.New(60)
	tx := overRow{row}
	out := no(api.ErrRange)
	for _, r := range []struct {
		name string
		slot uint64
		want map[string]answer
	}{
		{"a leaf", 2*60 + 1, map[string]answer{"Depth": none}},
		{"the greatest leaf", top, map[string]answer{"Depth": none}},
		{"a leaf whose value is not there", 2*59 + 1, map[string]answer{"Depth": none}},
		{"a node", 2*60 + 2, nil},
		{"the greatest node", top - 1, nil},
		{"a node whose digit is not there", 2*49 + 2, nil},
	} {
		for name, c := range every(0, 20, key, 1) {
			for cell := range uint64(60) {
				row.Store(cell, 0)
			}
			rooms.Lay(tx, 0, 40, 48)
			row.Store(30, r.slot)
			row.Store(59, key)
			want, looks := r.want[name]
			switch {
			case name == "Lay":
				want = none
			case name == "New":
				want = no(api.ErrRoom)
			case !looks:
				want = out
			}
			if got := c(tx); got != want {
				t.Errorf("%s, where there is %s, answers %v, not %v", name, r.name, got, want)
			}
		}
	}
}

// What the room's cells say is asked of the tx, and refused by it; who needs no room asks it nothing.
func TestARoomThatIsRefused(t *testing.T) {
	list := some()[4]
	w := sow(place{20, 1000, 40, 400}, list...)
	tx := func() api.Tx {
		b := open(w)
		return pair{
			get: func(addr uint64) (uint64, api.Errno) {
				if addr >= 1000 {
					return 3, api.ErrStopped
				}
				return b.Get(addr)
			},
			put: b.Put,
		}
	}
	for name, c := range every(1000, 20, list[1].key, 5) {
		needs := name == "New" || name == "Delete"
		if got := c(tx()); needs != (got == no(api.ErrStopped)) {
			t.Errorf("%s answers %v", name, got)
		}
	}
	for _, key := range []uint64{keyOf("4"), keyOf("901"), keyOf("911")} {
		for name, c := range every(1000, 20, key, 5) {
			needs := name == "New" || name == "Put" || name == "Add"
			if got := c(tx()); needs != (got == no(api.ErrStopped)) {
				t.Errorf("%s of a key that is not there answers %v", name, got)
			}
		}
	}
}
