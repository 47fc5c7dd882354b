package part

import (
	"testing"

	"parley/api"
	"parley/cells"
	"parley/queue"
	rooms "parley/room"
)

// shared is cells that functions at package level load and store: nobody else has them.
var shared [60]uint64

func loadShared(addr uint64) (uint64, api.Errno) {
	if addr >= uint64(len(shared)) {
		return 0, api.ErrRange
	}
	return shared[addr], api.OK
}

func storeShared(addr, word uint64) api.Errno {
	if addr >= uint64(len(shared)) {
		return api.ErrRange
	}
	shared[addr] = word
	return api.OK
}

// scale is a number by which words are multiplied.
type scale uint64

func (s scale) of(word uint64) uint64 { return word * uint64(s) }

// fixed is cells that are words of their own, and no pointer.
type fixed struct{ words *[60]uint64 }

func (f fixed) Load(addr uint64) (uint64, api.Errno) { return f.words[addr], api.OK }

func (f fixed) Store(addr, word uint64) api.Errno {
	f.words[addr] = word
	return api.OK
}

// 'Ways': load, store and f are functions, closures, methods as method values, and method expressions' closures.
func TestWhatIsHandedIn(t *testing.T) {
	row, _ := cells.New(60)
	tx := overRow{row}
	rooms.Lay(tx, 0, 20, 60)
	q, _ := queue.New(tx, 0)
	for _, word := range []uint64{5, 6, 7} {
		queue.Put(tx, 0, q, word)
	}
	p, err := Queue(tx, q)
	if err != api.OK {
		t.Fatal(err)
	}
	shared = [60]uint64{}
	own := [60]uint64{}
	for addr, word := range row.All() {
		shared[addr], own[addr] = word, word
	}
	b := open(words{})
	for addr, word := range row.All() {
		b.words.set(addr, word)
	}
	loads := 0
	closed := func(addr uint64) (uint64, api.Errno) { loads++; return row.Load(addr) }
	expression := (*cells.Row).Store
	for _, r := range []struct {
		name  string
		load  func(uint64) (uint64, api.Errno)
		store func(addr, word uint64) api.Errno
		f     func(uint64) uint64
	}{
		{"functions", loadShared, storeShared, twice},
		{"method values of a row", row.Load, row.Store, scale(2).of},
		{"method values of a tx", b.Get, b.Put, scale(2).of},
		{"method values of a struct", fixed{&own}.Load, fixed{&own}.Store, scale(2).of},
		{"closures", closed, func(addr, word uint64) api.Errno { return expression(row, addr, word) }, func(word uint64) uint64 { return word + word }},
	} {
		had, err := Read(p, r.load)
		if err != api.OK || len(had) != 3 {
			t.Fatalf("%s: Read answers %v, %v", r.name, had, err)
		}
		if err := Turn(p, r.load, r.store, r.f); err != api.OK {
			t.Errorf("%s: Turn answers %v", r.name, err)
		}
		for n := range had {
			had[n] *= 2
		}
		if now, err := Read(p, r.load); text(now) != text(had) || err != api.OK {
			t.Errorf("%s: Read answers %v, %v, not %v", r.name, now, err, had)
		}
	}
	if loads != 3*6 {
		t.Errorf("%d loads", loads)
	}
	if got := lays(q, p)(tx); got != nothing {
		t.Error(got)
	}
	if got, err := queue.Words(tx, q); text(got) != "20 24 28" || err != api.OK {
		t.Errorf("the queue has %v, %v", got, err)
	}
}

// What a tx's Get is asked for is a load, too: a part may be read within a block.
func TestReadByATx(t *testing.T) {
	w, p := chained(api.PartList, at[2], rows[6])
	b := open(w)
	var tx api.Tx = b
	if got, err := Read(p, tx.Get); text(got) != text(rows[6]) || err != api.OK {
		t.Errorf("answers %v, %v", got, err)
	}
}
