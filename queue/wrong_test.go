package queue

import (
	"slices"
	"testing"

	"parley/api"
	"parley/cells"
	rooms "parley/room"
)

// every is all calls, on a queue at q in a room.
func every(room, q, word uint64) map[string]call {
	return map[string]call{
		"New": lay(room), "Put": putIn(room, q, word), "Take": takeOut(room, q), "First": first(q), "Len": length(q), "Words": all(q), "Drop": drop(room, q),
	}
}

// 'Errors': no tx.
func TestNoTx(t *testing.T) {
	for _, q := range []uint64{0, 20, top} {
		for _, word := range []uint64{0, 5, top} {
			for name, c := range every(0, q, word) {
				if got := c(nil); got != (answer{err: api.ErrNil}) {
					t.Errorf("%s answers %v", name, got)
				}
			}
		}
	}
	if list, _ := Words(nil, 20); list != nil {
		t.Errorf("Words answers %v beside an error", list)
	}
}

// hollow is a tx whose pointer is nil: it is there all the same, and is asked.
type hollow struct{}

func (h *hollow) Get(uint64) (uint64, api.Errno) { return 5, api.ErrFuel }

func (h *hollow) Put(uint64, uint64) api.Errno { return api.ErrFuel }

// pair is a tx that can't be compared, and no pointer.
type pair struct {
	get func(uint64) (uint64, api.Errno)
	put func(addr, word uint64) api.Errno
}

func (p pair) Get(addr uint64) (uint64, api.Errno) { return p.get(addr) }

func (p pair) Put(addr, word uint64) api.Errno { return p.put(addr, word) }

// Of a tx nothing but its methods is known.
func TestAnyTx(t *testing.T) {
	var h *hollow
	for name, c := range every(0, 20, 5) {
		if got := c(h); got != (answer{err: api.ErrFuel}) {
			t.Errorf("%s answers %v", name, got)
		}
	}

	b := open(laid(place{0, 20, 60}))
	tx := pair{get: b.Get, put: b.Put}
	did := []answer{
		lay(0)(tx), putIn(0, 20, 5)(tx), putIn(0, 20, 2)(tx), putIn(0, 20, 5)(tx), all(20)(tx), length(20)(tx), first(20)(tx),
		takeOut(0, 20)(tx), all(20)(tx), drop(0, 20)(tx), lay(0)(tx), takeOut(0, 20)(tx),
	}
	want := []answer{{word: 20}, nothing, nothing, nothing, {list: "5 2 5"}, {word: 3}, tells(5), tells(5), {list: "2 5"}, nothing, {word: 20}, nothing}
	if !slices.Equal(did, want) {
		t.Errorf("answers %v, not %v", did, want)
	}
}

// A tx that says no to gets alone, or to puts alone: the calls that need them answer that.
func TestATxOfGetsOrPutsAlone(t *testing.T) {
	w, q := built(places[0], 5, 6)
	for name, c := range every(0, q, 9) {
		b := open(w)
		noPut := pair{get: b.Get, put: func(uint64, uint64) api.Errno { return api.ErrFull }}
		got, changes := c(noPut), name == "New" || name == "Put" || name == "Take" || name == "Drop"
		if changes != (got == (answer{err: api.ErrFull})) {
			t.Errorf("%s without puts answers %v", name, got)
		}
		b = open(w)
		noGet := pair{get: func(uint64) (uint64, api.Errno) { return 44, api.ErrStale }, put: b.Put}
		if got := c(noGet); got != (answer{err: api.ErrStale}) || b.puts() > 0 {
			t.Errorf("%s without gets answers %v", name, got)
		}
	}
}

// overRow is a tx over a row of layer 1: addresses behind its last cell are refused.
type overRow struct{ row *cells.Row }

func (o overRow) Get(addr uint64) (uint64, api.Errno) { return o.row.Load(addr) }

func (o overRow) Put(addr, word uint64) api.Errno { return o.row.Store(addr, word) }

// 'Errors': queues and nodes of which cells are not there: the tx says so, and that error comes at once.
func TestOverARow(t *testing.T) {
	row, _ := cells.New(30)
	tx := overRow{row}
	is := func(c call, want answer) {
		t.Helper()
		if got := c(tx); got != want {
			t.Errorf("answers %v, not %v", got, want)
		}
	}
	out := answer{err: api.ErrRange}
	// More than there are: the tx refuses what the room does not.
	rooms.Lay(tx, 0, 19, 60)
	is(lay(0), answer{word: 19})
	for word := range uint64(4) {
		is(putIn(0, 19, 6+word), nothing)
	}
	is(all(19), answer{list: "6 7 8 9"})
	is(putIn(0, 19, 5), out)
	is(all(19), answer{list: "6 7 8 9"})
	is(lay(0), out)

	for name, c := range every(0, 30, 5) {
		if name != "New" {
			if got := c(tx); got != out {
				t.Errorf("%s of a queue behind the cells answers %v", name, got)
			}
		}
	}
	// A queue whose third cell, and one whose second cell, is not there.
	row.Store(28, 0)
	row.Store(29, 0)
	is(length(28), out)
	is(all(28), out)
	is(drop(0, 28), out)
	is(first(28), nothing)
	is(length(29), out)
	is(all(29), out)
	// A room behind the cells.
	is(lay(29), out)
	is(putIn(28, 19, 77), out)
	is(takeOut(1000, 19), out)
}

// A chain that leads to a cell that is not there: the tx's error comes at once, where that is what shows first.
func TestNodesThatAreNotThere(t *testing.T) {
	// A queue at 20 of the nodes 23, 25, 27, in a row of 30 cells.
	good := words{20: 24, 21: 28, 22: 3, 23: 5, 24: 26, 25: 6, 26: 28, 27: 7}
	if got := all(20)(within(open(good), 30)); got != (answer{list: "5 6 7"}) {
		t.Fatalf("answers %v", got)
	}
	for _, r := range []struct {
		name string
		set  words
	}{
		{"the first node", words{20: 31}},
		{"the first node, far behind", words{20: top}},
		{"the second node", words{24: 1000}},
		{"the last node", words{26: 31, 21: 31}},
		{"the last node's second cell", words{26: 30, 21: 30, 29: 8}},
		{"the only node", words{20: 31, 21: 31, 22: 1}},
	} {
		w := good.behind(nil)
		for addr, word := range r.set {
			w.set(addr, word)
		}
		for name, c := range map[string]call{"Words": all(20), "Drop": drop(0, 20)} {
			b := open(w)
			if got := c(within(b, 30)); got != (answer{err: api.ErrRange}) || b.puts() > 0 {
				t.Errorf("%s, where %s is not there, answers %v behind %v", name, r.name, got, b.trace)
			}
		}
		for name, c := range every(0, 20, 5) {
			if got := c(within(open(w), 30)); got.err != api.OK && got != (answer{err: got.err}) {
				t.Errorf("%s, where %s is not there, answers %v", name, r.name, got)
			}
		}
	}
}

// What the room's cells say is asked of the tx, and refused by it.
func TestARoomThatIsRefused(t *testing.T) {
	p := place{1000, 20, 60}
	w, q := built(p, 4, 9)
	for name, c := range map[string]call{"New": lay(1000), "Put": putIn(1000, q, 5), "Take": takeOut(1000, q), "Drop": drop(1000, q)} {
		b := open(w)
		tx := pair{
			get: func(addr uint64) (uint64, api.Errno) {
				if addr >= 1000 {
					return 3, api.ErrStopped
				}
				return b.Get(addr)
			},
			put: b.Put,
		}
		if got := c(tx); got != (answer{err: api.ErrStopped}) {
			t.Errorf("%s answers %v", name, got)
		}
	}
	// Who only looks asks the room nothing.
	for name, c := range map[string]call{"First": first(q), "Len": length(q), "Words": all(q)} {
		b := open(w)
		c(b)
		for _, a := range b.trace {
			if a.addr >= 1000 {
				t.Errorf("%s asks the room: %v", name, a)
			}
		}
	}
}
