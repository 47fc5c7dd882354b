package races

import (
	"testing"

	"parley/api"
)

// access is an access: w writes, p is plain.
func access(event, thread int, addr uint64, kind string) api.Access {
	a := api.Access{Event: event, Thread: thread, Addr: addr}
	for _, k := range kind {
		a.Writes, a.Plain = a.Writes || k == 'w', a.Plain || k == 'p'
	}
	return a
}

// P18.1: plain accesses, whichever cell, and whatever else their threads do.
func TestPlainAccesses(t *testing.T) {
	for _, text := range []string{"", "0 halted", "0 failed 4", "0 failed 4, 1 halted", "0 begin 0, 0 committed 0", "3 begin 0"} {
		accessesAre(t, hist(text))
	}
	accessesAre(t, []api.Event{})
	accessesAre(t, hist("7 loaded 0 5"), access(0, 7, 0, "p"))
	accessesAre(t, hist("0 stored 18446744073709551615 5"), access(0, 0, top, "pw"))
	accessesAre(t, hist("1 halted, 0 loaded 4 5, 2 stored 4 6, 0 loaded 4 6, 3 failed 4, 0 stored 4 6, 0 halted"),
		access(1, 0, 4, "p"), access(2, 2, 4, "pw"), access(3, 0, 4, "p"), access(5, 0, 4, "pw"))
}

// P18.1: of blocks that are over the Reads that are not Own; the Writes of those that write alone. What an end is told by is each block's own.
func TestAccessesOfBlocks(t *testing.T) {
	const block = "0 begin 0, 0 read 4 5, 0 write 6 7, 0 own 6 7, 0 read 4 5, 0 write 6 8, "
	read1, read2 := access(1, 0, 4, ""), access(4, 0, 4, "")
	accessesAre(t, hist(block+"0 locked, 0 committed 1"), read1, access(2, 0, 6, "w"), read2, access(5, 0, 6, "w"))
	accessesAre(t, hist(block+"0 aborted"), read1, read2)
	for _, end := range []string{"0 failed 4", "0 failed 5", "0 failed 6"} {
		accessesAre(t, hist(block+end), read1, read2)
	}
	accessesAre(t, hist(block+"0 stale"))
	accessesAre(t, hist(block+"0 locked"))
	accessesAre(t, hist(block+"1 halted"))
	accessesAre(t, hist("0 begin 0, 0 read 4 5, 0 committed 0"), read1)
	accessesAre(t, hist("0 begin 0, 0 write 4 5, 0 own 4 5, 0 own 4 5, 0 locked, 0 committed 1"), access(1, 0, 4, "w"))
}

// P18.1: one thread's attempts that are given up stand between those that are over, and between the events of other threads.
func TestAccessesBetween(t *testing.T) {
	accessesAre(t, hist("0 begin 0, 1 begin 0, 0 read 1 1, 1 read 1 1, 0 stale, 0 begin 0, 1 write 2 2, 0 read 1 1, 1 locked, 2 loaded 2 2, 1 committed 1, 0 read 3 3, 0 moved 2, 0 write 5 5, 0 aborted, 0 begin 2, 0 read 7 7, 1 stored 9 9, 0 stale, 0 loaded 8 8, 0 begin 2, 0 read 1 1"),
		access(3, 1, 1, ""), access(6, 1, 2, "w"), access(7, 0, 1, ""), access(9, 2, 2, "p"), access(11, 0, 3, ""), access(17, 1, 9, "pw"), access(19, 0, 8, "p"))
}

// P18.1: drawn histories, and those of runs, against the model.
func TestAccessesDrawn(t *testing.T) {
	d := drawn(1)
	plain, kinds := 0, map[string]int{}
	for n := range 300 {
		h := d.history(120, 1+d.below(8), 1+d.below(4))
		if n%3 == 0 {
			h = run(t, d.script(400)).Events
		}
		m := modeled(h)
		accessesAre(t, h, m.list...)
		for _, a := range m.list {
			if kinds[[2]string{"reads", "writes"}[cut(a.Writes)]]++; a.Plain {
				plain++
			}
		}
		if t.Failed() {
			return
		}
	}
	if plain < 1500 || kinds["reads"] < 1500 || kinds["writes"] < 1500 {
		t.Errorf("%d plain, %v", plain, kinds)
	}
}

// cut is 1 for true.
func cut(b bool) int {
	if b {
		return 1
	}
	return 0
}
