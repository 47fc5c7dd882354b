package rank

import (
	"slices"
	"testing"

	"parley/api"
	"parley/cells"
	rooms "parley/room"
)

// every is all calls, on heaps at h and at other in a room.
func every(room, h, other uint64, e entry) map[string]call {
	return map[string]call{
		"New": lay(room), "Push": push(room, h, e), "Pop": pop(room, h), "First": firstOf(h), "Len": length(h), "Join": joins(h, other), "All": allOf(h), "Clear": clearAll(room, h),
	}
}

// P24.1: no tx; that comes ahead of all else.
func TestNoTx(t *testing.T) {
	for _, h := range []uint64{0, 20, top} {
		for _, other := range []uint64{0, 22, top} {
			for name, c := range every(0, h, other, of(1, 1)) {
				if got := c(nil); got != (answer{err: api.ErrNil}) {
					t.Errorf("%s answers %v", name, got)
				}
			}
		}
	}
	if list, _ := All(nil, 20); list != nil {
		t.Errorf("All answers %v beside an error", list)
	}
}

// hollow is a tx whose pointer is nil: it is there all the same, and is asked.
type hollow struct{}

func (h *hollow) Get(uint64) (uint64, api.Errno) { return 5, api.ErrFuel }

func (h *hollow) Put(uint64, uint64) api.Errno { return api.ErrFuel }

// pair is a tx that can't be compared, and no pointer.
type pair struct {
	get func(uint64) (uint64, api.Errno)
	put func(addr, word uint64) api.Errno
}

func (p pair) Get(addr uint64) (uint64, api.Errno) { return p.get(addr) }

func (p pair) Put(addr, word uint64) api.Errno { return p.put(addr, word) }

// Of a tx nothing but its methods is known.
func TestAnyTx(t *testing.T) {
	var h *hollow
	for name, c := range every(0, 20, 22, of(1, 1)) {
		if got := c(h); got != (answer{err: api.ErrFuel}) {
			t.Errorf("%s answers %v", name, got)
		}
	}

	b := open(laid(place{0, 20, 60}))
	tx := pair{get: b.Get, put: b.Put}
	did := []answer{
		lay(0)(tx), lay(0)(tx), push(0, 20, of(5, 1))(tx), push(0, 20, of(2, 1))(tx), push(0, 22, of(3, 1))(tx), joins(20, 22)(tx), allOf(20)(tx), length(20)(tx), firstOf(20)(tx),
		pop(0, 20)(tx), allOf(20)(tx), clearAll(0, 20)(tx), pop(0, 20)(tx),
	}
	want := []answer{
		{word: 20}, {word: 22}, nothing, nothing, nothing, nothing, lists(of(2, 1), of(3, 1), of(5, 1)), {word: 3}, tells(of(2, 1)),
		tells(of(2, 1)), lists(of(3, 1), of(5, 1)), {word: 2}, nothing,
	}
	if !slices.Equal(did, want) {
		t.Errorf("answers %v, not %v", did, want)
	}
}

// A tx that says no to gets alone, or to puts alone: the calls that need them answer that.
func TestATxOfGetsOrPutsAlone(t *testing.T) {
	w, h, g := both(place{0, 18, 200}, halves, rows[5], rows[7])
	for name, c := range every(0, h, g, of(9, 9)) {
		b := open(w)
		noPut := pair{get: b.Get, put: func(uint64, uint64) api.Errno { return api.ErrFull }}
		got, looks := c(noPut), name == "First" || name == "Len" || name == "All"
		if looks == (got == (answer{err: api.ErrFull})) {
			t.Errorf("%s without puts answers %v", name, got)
		}
		b = open(w)
		noGet := pair{get: func(uint64) (uint64, api.Errno) { return 44, api.ErrStale }, put: b.Put}
		if got := c(noGet); got != (answer{err: api.ErrStale}) || b.puts() > 0 {
			t.Errorf("%s without gets answers %v", name, got)
		}
	}
}

// overRow is a tx over a row of layer 1: addresses behind its last cell are refused.
type overRow struct{ row *cells.Row }

func (o overRow) Get(addr uint64) (uint64, api.Errno) { return o.row.Load(addr) }

func (o overRow) Put(addr, word uint64) api.Errno { return o.row.Store(addr, word) }

// P24.1: heaps and nodes of which cells are not there: the tx says so, and that error comes at once.
func TestOverARow(t *testing.T) {
	row, _ := cells.New(37)
	tx := overRow{row}
	is := func(c call, want answer) {
		t.Helper()
		if got := c(tx); got != want {
			t.Errorf("answers %v, not %v", got, want)
		}
	}
	out := answer{err: api.ErrRange}
	// The room says that there are more cells than there are: the tx refuses what the room does not.
	rooms.Lay(tx, 0, 18, 80)
	is(lay(0), answer{word: 18})
	is(lay(0), answer{word: 20})
	for n := range uint64(3) {
		is(push(0, 18, of(float64(3-n), n)), nothing)
	}
	is(allOf(18), lists(of(1, 2), of(2, 1), of(3, 0)))
	is(push(0, 18, of(0, 0)), out)
	is(allOf(18), lists(of(1, 2), of(2, 1), of(3, 0)))
	is(lay(0), out)

	for name, c := range every(0, 37, 20, of(1, 1)) {
		if name != "New" {
			if got := c(tx); got != out {
				t.Errorf("%s of a heap behind the cells answers %v", name, got)
			}
		}
	}
	is(joins(18, 1000), out)
	is(joins(1000, 18), out)
	// A heap whose second cell is not there.
	row.Store(36, 0)
	is(length(36), nothing)
	is(firstOf(36), out)
	is(allOf(36), out)
	is(pop(0, 36), out)
	is(joins(20, 36), out)
	// A room behind the cells.
	is(lay(37), out)
	is(push(1000, 18, of(1, 1)), out)
	is(pop(1000, 20), nothing)
	is(pop(1000, 18), out)
}

// within is a tx that has the cells below a number alone: all others it refuses.
func within(b *book, cells uint64) api.Tx {
	return pair{
		get: func(addr uint64) (uint64, api.Errno) {
			if addr >= cells {
				return 3, api.ErrRange
			}
			return b.Get(addr)
		},
		put: func(addr, word uint64) api.Errno {
			if addr >= cells {
				return api.ErrRange
			}
			return b.Put(addr, word)
		},
	}
}

// P24.3: nodes that are not there: the tx's error comes at once, and nothing was put.
func TestNodesThatAreNotThere(t *testing.T) {
	for _, s := range splits {
		good, h := built(place{0, 18, 80}, s, rows[8]...)
		if got := allOf(h)(within(open(good), 55)); got != lists(inOrder(rows[8]...)...) {
			t.Fatalf("answers %v", got)
		}
		for n := range rows[8] {
			node := nodeAt(h, n)
			for _, link := range []uint64{h + 1, node + 2, node + 3} {
				for _, to := range []uint64{52, 55, 56, 1000, top} {
					w := open(good).words
					w.set(link, to)
					b := open(w)
					got := allOf(h)(within(b, 55))
					if got != (answer{err: api.ErrRange}) && got != (answer{err: api.ErrHeap}) {
						t.Errorf("All, where %d leads to %d, answers %v", link, to, got)
					}
					for name, c := range every(0, h, 20, of(9, 9)) {
						b := open(w)
						if got := c(within(b, 55)); got.err != api.OK && got != (answer{err: got.err}) {
							t.Errorf("%s, where %d leads to %d, answers %v", name, link, to, got)
						}
					}
				}
			}
		}
	}
	// The only node's cells are there but for the last one.
	w := words{20: 1, 21: 51, 50: of(1, 0).key, 54: 1}
	for name, c := range map[string]call{"Push": push(0, 20, of(2, 2)), "Pop": pop(0, 20), "All": allOf(20), "Clear": clearAll(0, 20)} {
		b := open(w)
		if got := c(within(b, 54)); got != (answer{err: api.ErrRange}) || b.puts() > 0 {
			t.Errorf("%s answers %v behind %v", name, got, b.trace)
		}
	}
}

// What the room's cells say is asked of the tx, and refused by it; who needs no room asks it nothing.
func TestARoomThatIsRefused(t *testing.T) {
	w, h, g := both(place{1000, 18, 200}, halves, rows[5], rows[7])
	for name, c := range every(1000, h, g, of(9, 9)) {
		b := open(w)
		tx := pair{
			get: func(addr uint64) (uint64, api.Errno) {
				if addr >= 1000 {
					return 3, api.ErrStopped
				}
				return b.Get(addr)
			},
			put: b.Put,
		}
		needs := name == "New" || name == "Push" || name == "Pop" || name == "Clear"
		if got := c(tx); needs != (got == (answer{err: api.ErrStopped})) {
			t.Errorf("%s answers %v", name, got)
		}
	}
}
