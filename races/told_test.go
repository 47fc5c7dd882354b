package races

import (
	"math"
	"testing"

	"parley/api"
)

// P18.3: no answer where the history is not Quiet, or e is no Loaded of it.
func TestToldOfNone(t *testing.T) {
	quiet := hist("0 stored 1 7, 0 loaded 1 7, 0 begin 0, 0 read 1 7, 0 committed 0, 1 begin 0, 1 stale, 0 halted")
	for e := range quiet {
		tells(t, quiet, nil, e, uint64(7*cut(e == 1)), e == 1)
	}
	for _, e := range []int{-1, len(quiet), math.MaxInt, math.MinInt, 1 << 32, 1<<32 + 1} {
		tells(t, quiet, []uint64{1, 2}, e, 0, false)
		tells(t, nil, []uint64{1, 2}, e, 0, false)
	}
	tells(t, nil, nil, 0, 0, false)
	// A race, of the load itself, or of another cell.
	for _, text := range []string{"0 stored 1 7, 1 loaded 1 7", "1 stored 1 7, 1 loaded 1 7, 0 stored 1 7", "1 loaded 1 7, 0 stored 2 7, 1 stored 2 7", "1 stored 1 7, 1 loaded 1 7, 1 stored 5 5, 2 loaded 5 5"} {
		h := hist(text)
		for e := range h {
			tells(t, h, []uint64{3, 3, 3}, e, 0, false)
		}
	}
	// The same without it.
	tells(t, hist("1 stored 1 7, 1 loaded 1 8, 1 stored 5 5, 2 loaded 6 5"), nil, 1, 7, true)
}

// P18.3: none ahead: the first word, 0 behind first's end; the word that the load told is not asked.
func TestToldOfFirst(t *testing.T) {
	first := []uint64{3, 4, top}
	for addr, want := range map[uint64]uint64{0: 3, 1: 4, 2: top, 3: 0, 4: 0, 1 << 32: 0, 1 << 63: 0, top: 0, top - 1: 0} {
		h := []api.Event{{Kind: api.Loaded, Addr: addr, Word: 99}}
		tells(t, h, first, 0, want, true)
		tells(t, h, nil, 0, 0, true)
		tells(t, h, []uint64{}, 0, 0, true)
	}
	// More of them than a script may have.
	tells(t, hist("0 loaded 70000 1"), append(make([]uint64, 70000), 6), 0, 6, true)
	// Who writes another cell, writes later, or does not write, is none.
	for _, text := range []string{"0 loaded 1 0, 0 stored 1 5", "0 loaded 1 0, 0 begin 0, 0 write 1 5, 0 locked, 0 committed 1"} {
		tells(t, hist(text), first, 0, 4, true)
	}
	tells(t, hist("0 stored 2 5, 0 stored 0 5, 0 loaded 1 0"), first, 2, 4, true)
	for _, end := range []string{"0 aborted", "0 stale", "0 read 2 2, 0 aborted"} {
		h := hist("0 begin 0, 0 write 1 5, " + end + ", 0 loaded 1 0")
		tells(t, h, first, len(h)-1, 4, true)
	}
	// One that is going on is not over, even if it holds the lock.
	tells(t, hist("0 begin 0, 0 write 1 5, 0 locked, 1 loaded 1 5"), first, 3, 4, true)
}

// P18.3: the last of several that are ahead, Stored events and blocks, of the own thread and of others.
func TestToldOfTheLast(t *testing.T) {
	last := func(text string, want uint64) {
		t.Helper()
		h := hist(text)
		tells(t, h, []uint64{3, 4}, len(h)-1, want, true)
	}
	last("0 stored 1 5, 0 loaded 1 0", 5)
	last("0 stored 1 5, 0 stored 1 6, 0 stored 0 7, 0 loaded 1 0", 6)
	last("0 begin 0, 0 write 1 5, 0 locked, 0 committed 1, 0 loaded 1 0", 5)
	last("0 begin 0, 0 write 1 5, 0 locked, 0 committed 1, 0 stored 1 6, 0 loaded 1 0", 6)
	last("0 stored 1 6, 0 begin 0, 0 write 1 5, 0 locked, 0 committed 1, 0 loaded 1 0", 5)
	last("0 stored 1 6, 0 begin 0, 0 write 0 5, 0 locked, 0 committed 1, 0 loaded 1 0", 6)
	last("0 stored 1 6, 0 begin 0, 0 write 1 5, 0 aborted, 0 loaded 1 0", 6)
	// Of a block the last word there, with other cells' between.
	last("0 begin 0, 0 write 1 5, 0 write 0 9, 0 write 1 6, 0 write 0 8, 0 locked, 0 committed 1, 0 loaded 1 0", 6)
	last("0 begin 0, 0 write 1 5, 0 write 0 9, 0 write 1 6, 0 write 0 8, 0 locked, 0 committed 1, 0 loaded 0 0", 8)
	// Another thread's, handed on by blocks: its Stored, its block, the block behind the Stored.
	last("1 stored 1 5, 1 begin 0, 1 committed 0, 0 begin 0, 0 committed 0, 0 loaded 1 0", 5)
	last("1 begin 0, 1 write 1 6, 1 locked, 1 committed 1, 0 begin 2, 0 committed 1, 0 loaded 1 0", 6)
	last("1 stored 1 5, 1 begin 0, 1 write 1 6, 1 locked, 1 committed 1, 0 begin 2, 0 committed 1, 0 loaded 1 0", 6)
	// Three threads one behind the other, whose numbers fall, and the other way round.
	const hands = "2 begin 0, 2 write 1 7, 2 locked, 2 committed 1, 2 stored 1 8, 2 begin 2, 2 committed 1, 1 begin 2, 1 committed 1, 1 stored 1 9, 1 begin 2, 1 committed 1, "
	last(hands+"0 begin 2, 0 committed 1, 0 loaded 1 0", 9)
	last("0 begin 0, 0 write 1 7, 0 locked, 0 committed 1, 1 begin 2, 1 write 1 8, 1 locked, 1 committed 2, 2 begin 4, 2 committed 2, 2 stored 1 9, 2 begin 4, 2 committed 2, 7 begin 4, 7 committed 2, 7 loaded 1 0", 9)
	last("3 begin 0, 2 begin 0, 2 write 1 7, 2 locked, 2 committed 1, 3 moved 2, 3 write 1 6, 3 locked, 3 committed 2, 1 begin 4, 1 committed 2, 1 loaded 1 0", 6)
	// By the blocks' order, not by how their Writes stand: the number 2 wrote first.
	last("2 begin 0, 2 write 1 7, 3 begin 0, 3 write 1 6, 3 locked, 3 committed 1, 2 moved 2, 2 locked, 2 committed 2, 1 begin 4, 1 committed 2, 1 loaded 1 0", 7)
	last("3 begin 0, 3 write 1 7, 2 begin 0, 2 write 1 6, 2 locked, 2 committed 1, 3 moved 2, 3 locked, 3 committed 2, 1 begin 4, 1 committed 2, 1 loaded 1 0", 7)
	last("2 begin 0, 3 begin 0, 3 write 1 6, 3 locked, 3 committed 1, 2 moved 2, 2 write 1 7, 2 locked, 2 committed 2, 1 begin 4, 1 committed 2, 1 loaded 1 0", 7)
}

// P18.3: writers behind the load are none, in the order: of those that are ahead the last one counts, whatever stands behind.
func TestToldOfThoseAhead(t *testing.T) {
	h := hist("0 stored 1 5, 0 loaded 1 0, 0 begin 0, 0 committed 0, 1 begin 0, 1 write 1 6, 1 locked, 1 committed 1, 1 loaded 1 0, 1 stored 1 7, 1 loaded 1 0, 1 begin 2, 1 committed 1, 0 begin 2, 0 committed 1, 0 loaded 1 0")
	for e, want := range map[int]uint64{1: 5, 8: 6, 10: 7, 15: 7} {
		tells(t, h, nil, e, want, true)
	}
}

// P18.3: drawn histories, and those of runs, against the model.
func TestToldDrawn(t *testing.T) {
	d := drawn(4)
	asked, blocks, stores := 0, 0, 0
	for n := range 6000 {
		h := d.history(8+d.below(25), 1+d.below(3), 1+d.below(8))
		if n%4 == 0 {
			h = few(run(t, d.script(60)).Events)
		}
		m, first := modeled(h), d.first()
		for e := range h {
			word, ok := m.told(first, e)
			tells(t, h, first, e, word, ok)
			if !ok {
				continue
			}
			asked++
			for _, a := range m.list {
				if a.Writes && a.Addr == h[e].Addr && m.ahead(a.Event, e) {
					if stores++; !a.Plain {
						blocks++
					}
				}
			}
		}
		if t.Failed() {
			return
		}
	}
	if asked < 2000 || blocks < 300 || stores-blocks < 300 {
		t.Errorf("%d loads asked, of %d blocks and %d stores", asked, blocks, stores-blocks)
	}
}
