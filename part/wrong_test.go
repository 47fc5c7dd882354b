package part

import (
	"slices"
	"testing"

	"parley/api"
	"parley/cells"
	"parley/queue"
	rooms "parley/room"
)

// oddKinds is kinds that are none.
var oddKinds = []api.PartKind{0, 3, 4, -1, -2, 1 << 40, -1 << 63}

// parts is parts of both kinds and of none, with any numbers.
func parts() []api.Part {
	var list []api.Part
	for _, kind := range append(slices.Clone(kinds), oddKinds...) {
		for _, first := range []uint64{0, 1, 21, top} {
			for _, count := range []uint64{0, 1, 3, api.MaxCells + 1, top} {
				list = append(list, api.Part{Kind: kind, First: first, Count: count})
			}
		}
	}
	return list
}

// 'Errors': no tx.
func TestNoTx(t *testing.T) {
	for _, at := range []uint64{0, 20, top} {
		if p, err := Queue(nil, at); p != (api.Part{}) || err != api.ErrNil {
			t.Errorf("Queue answers %v, %v", p, err)
		}
		if p, err := List(nil, at); p != (api.Part{}) || err != api.ErrNil {
			t.Errorf("List answers %v, %v", p, err)
		}
		for _, p := range parts() {
			if err := Give(nil, at, p); err != api.ErrNil {
				t.Errorf("Give of %v answers %v", p, err)
			}
			if err := Back(nil, at, p); err != api.ErrNil {
				t.Errorf("Back of %v answers %v", p, err)
			}
		}
	}
}

// 'Errors': no load, no store, no f: whatever the part, and ahead of all loads and stores.
func TestNoFunction(t *testing.T) {
	for _, p := range parts() {
		b := open(words{20: 4})
		if list, err := Read(p, nil); list != nil || err != api.ErrNil {
			t.Errorf("Read of %v answers %v, %v", p, list, err)
		}
		for _, err := range []api.Errno{
			Turn(p, nil, b.Put, twice), Turn(p, b.Get, nil, twice), Turn(p, b.Get, b.Put, nil),
			Turn(p, nil, nil, twice), Turn(p, nil, b.Put, nil), Turn(p, b.Get, nil, nil), Turn(p, nil, nil, nil),
		} {
			if err != api.ErrNil {
				t.Errorf("Turn of %v answers %v", p, err)
			}
		}
		if len(b.trace) > 0 {
			t.Errorf("goes by %v", b.trace)
		}
	}
}

// 'Errors': a kind that is none: nothing is asked, whatever else is wrong.
func TestNoKind(t *testing.T) {
	for _, p := range parts() {
		if p.Kind == api.PartQueue || p.Kind == api.PartList {
			continue
		}
		for _, c := range []call{reads(p), turns(p, twice), gives(far, p), lays(100, p), lays(20, p)} {
			goes(t, words{20: 4, 22: 6}, c, wrong(api.ErrArg))
		}
	}
}

// hollow is a tx whose pointer is nil: it is there all the same, and is asked.
type hollow struct{}

func (h *hollow) Get(uint64) (uint64, api.Errno) { return 5, api.ErrFuel }

func (h *hollow) Put(uint64, uint64) api.Errno { return api.ErrFuel }

// pair is a tx that can't be compared, and no pointer.
type pair struct {
	get func(uint64) (uint64, api.Errno)
	put func(addr, word uint64) api.Errno
}

func (p pair) Get(addr uint64) (uint64, api.Errno) { return p.get(addr) }

func (p pair) Put(addr, word uint64) api.Errno { return p.put(addr, word) }

// every is all calls that ask something, of the part that hangs on a queue at q, or would.
func every(room, q uint64, p api.Part) map[string]call {
	return map[string]call{
		"Queue": takesQueue(q), "List": takesList(q), "Read": reads(p), "Turn": turns(p, flips), "Give": gives(room, p), "Back": lays(q, p),
	}
}

// Of a tx nothing but its methods is known.
func TestAnyTx(t *testing.T) {
	var h *hollow
	for name, c := range every(0, 20, api.Part{Kind: api.PartQueue, First: 31, Count: 1}) {
		if got := c(h); got != wrong(api.ErrFuel) {
			t.Errorf("%s answers %v", name, got)
		}
	}

	w, p := chained(api.PartQueue, at[0], rows[2])
	b := open(hung(w, p, 100, at[0][:3]))
	tx := pair{get: b.Get, put: b.Put}
	did := []answer{
		takesQueue(100)(tx), takesQueue(100)(tx), reads(p)(tx), turns(p, twice)(tx), reads(p)(tx),
		lays(100, p)(tx), lays(100, p)(tx), takesQueue(100)(tx), gives(far, p)(tx), takesList(100)(tx),
	}
	want := []answer{
		{part: p}, {part: api.Part{Kind: api.PartQueue}}, {list: "5 6 7"}, nothing, {list: "10 12 14"},
		nothing, wrong(api.ErrArg), {part: p}, nothing, {part: api.Part{Kind: api.PartList}},
	}
	if !slices.Equal(did, want) {
		t.Errorf("answers %v, not %v", did, want)
	}
	gave(t, b.words, far, 40, 20, 30)
}

// A tx that says no to gets alone, or to puts alone: the calls that need them answer that.
func TestATxOfGetsOrPutsAlone(t *testing.T) {
	w, p := chained(api.PartQueue, at[0], rows[2])
	for name, c := range every(far, 100, p) {
		if name == "Queue" {
			w = hung(w, p, 100, at[0][:3])
		} else if name == "List" {
			w = w.with(words{100: 3, 101: 31, 102: 0})
		} else {
			w = w.with(words{100: 0, 101: 0, 102: 0})
		}
		b := open(w)
		got := c(pair{get: b.Get, put: func(uint64, uint64) api.Errno { return api.ErrFull }})
		if want := wrong(api.ErrFull); (got == want) != (name != "Read") {
			t.Errorf("%s without puts answers %v", name, got)
		}
		b = open(w)
		got = c(pair{get: func(uint64) (uint64, api.Errno) { return 44, api.ErrStale }, put: b.Put})
		if got != wrong(api.ErrStale) || b.puts() > 0 {
			t.Errorf("%s without gets answers %v", name, got)
		}
	}
}

// overRow is a tx over a row of layer 1: addresses behind its last cell are refused.
type overRow struct{ row *cells.Row }

func (o overRow) Get(addr uint64) (uint64, api.Errno) { return o.row.Load(addr) }

func (o overRow) Put(addr, word uint64) api.Errno { return o.row.Store(addr, word) }

// 'Errors': queues and lists of which cells are not there; and nodes.
func TestOverARow(t *testing.T) {
	row, _ := cells.New(60)
	tx := overRow{row}
	for _, header := range []uint64{60, 1000, top, top - 1} {
		for name, c := range every(0, header, api.Part{Kind: api.PartQueue}) {
			want := wrong(api.ErrRange)
			if name == "Read" || name == "Turn" || name == "Give" {
				want = nothing
			}
			if got := c(tx); got != want {
				t.Errorf("%s at %d answers %v", name, header, got)
			}
		}
	}
	for _, r := range []struct {
		c    call
		want answer
	}{
		{takesQueue(58), wrong(api.ErrRange)}, {takesList(59), wrong(api.ErrRange)}, {lays(58, api.Part{Kind: api.PartQueue}), wrong(api.ErrRange)},
		{takesList(58), answer{part: api.Part{Kind: api.PartList}}}, {takesQueue(57), answer{part: api.Part{Kind: api.PartQueue}}},
	} {
		if got := r.c(tx); got != r.want {
			t.Errorf("answers %v, not %v", got, r.want)
		}
	}

	// A room behind the cells: the nodes are found, and nothing can be given back.
	rooms.Lay(tx, 0, 20, 60)
	q, _ := queue.New(tx, 0)
	queue.Put(tx, 0, q, 5)
	p, err := Queue(tx, q)
	if err != api.OK {
		t.Fatal(err)
	}
	if got := gives(57, p)(tx); got != wrong(api.ErrRange) {
		t.Errorf("answers %v", got)
	}
	if got := reads(p)(tx); got != (answer{list: "5"}) {
		t.Errorf("answers %v", got)
	}
}
