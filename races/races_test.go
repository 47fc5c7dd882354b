package races

import (
	"testing"

	"parley/api"
)

// P18.2: two accesses of one cell where both are plain, where one is, where none is; where both write, one does, none does.
func TestKindsOfPairs(t *testing.T) {
	racesAre(t, hist("0 stored 1 1, 1 stored 1 1"), raceList(0, 1)...)
	racesAre(t, hist("0 stored 1 1, 1 loaded 1 1"), raceList(0, 1)...)
	racesAre(t, hist("0 loaded 1 1, 1 stored 1 1"), raceList(0, 1)...)
	racesAre(t, hist("0 loaded 1 1, 1 loaded 1 1"))
	// A block's Read or Write, then a plain access; nothing orders them.
	racesAre(t, hist("0 begin 0, 0 read 1 1, 0 committed 0, 1 stored 1 1"), raceList(1, 3)...)
	racesAre(t, hist("0 begin 0, 0 read 1 1, 0 committed 0, 1 loaded 1 1"))
	racesAre(t, hist("0 begin 0, 0 write 1 1, 0 locked, 0 committed 1, 1 stored 1 1"), raceList(1, 4)...)
	racesAre(t, hist("0 begin 0, 0 write 1 1, 0 locked, 0 committed 1, 1 loaded 1 1"), raceList(1, 4)...)
	// The plain one first.
	racesAre(t, hist("1 stored 1 1, 0 begin 0, 0 read 1 1, 0 committed 0"), raceList(0, 2)...)
	racesAre(t, hist("1 loaded 1 1, 0 begin 0, 0 read 1 1, 0 committed 0"))
	racesAre(t, hist("1 loaded 1 1, 0 begin 0, 0 write 1 1, 0 locked, 0 committed 1"), raceList(0, 2)...)
	// Blocks alone never race.
	racesAre(t, hist("0 begin 0, 1 begin 0, 0 read 1 1, 1 write 1 1, 1 locked, 1 committed 1, 0 committed 0"))
	racesAre(t, hist("0 begin 0, 1 begin 0, 0 write 1 1, 1 write 1 1, 0 locked, 0 committed 1, 1 moved 2, 1 locked, 1 committed 2"))
	for _, h := range [][]api.Event{nil, {}, hist("0 halted"), hist("0 failed 4, 1 failed 4")} {
		racesAre(t, h)
	}
}

// P18.2: of unlike cells, and of one thread, there are none.
func TestNoPairs(t *testing.T) {
	racesAre(t, hist("0 stored 1 1, 1 stored 2 1, 2 stored 0 1, 3 stored 18446744073709551615 1, 4 loaded 3 1"))
	racesAre(t, hist("0 stored 0 1, 1 stored 18446744073709551615 1, 2 loaded 18446744073709551615 1"), raceList(1, 2)...)
	racesAre(t, hist("5 stored 1 1, 5 loaded 1 1, 5 begin 0, 5 read 1 1, 5 write 1 2, 5 locked, 5 committed 1, 5 stored 1 1"))
}

// P18.2: what belongs to no block that is over, Own Reads, and Writes of those that do not write, are no accesses.
func TestNoAccesses(t *testing.T) {
	const stores = "1 stored 1 1, 1 stored 2 2, "
	racesAre(t, hist(stores+"0 begin 0, 0 read 1 1, 0 write 2 2, 0 own 2 2, 0 stale"))
	racesAre(t, hist(stores+"0 begin 0, 0 read 1 1, 0 write 2 2, 0 own 2 2, 0 locked"))
	racesAre(t, hist(stores+"0 begin 0, 0 read 1 1, 0 write 2 2, 0 own 2 2"))
	racesAre(t, hist(stores+"0 begin 0, 0 read 1 1, 0 write 2 2, 0 own 2 2, 0 aborted"), raceList(0, 3)...)
	racesAre(t, hist(stores+"0 begin 0, 0 read 1 1, 0 write 2 2, 0 own 2 2, 0 failed 6"), raceList(0, 3)...)
	racesAre(t, hist(stores+"0 begin 0, 0 read 1 1, 0 write 2 2, 0 own 2 2, 0 locked, 0 committed 1"), raceList(0, 3, 1, 4)...)
	racesAre(t, hist(stores+"0 failed 4"))
}

// P18.2: no race, where one is ahead of the other, by blocks of their threads between; in both directions of time.
func TestOrderedPairs(t *testing.T) {
	racesAre(t, hist("0 stored 1 1, 0 begin 0, 0 committed 0, 1 begin 0, 1 committed 0, 1 loaded 1 1"))
	racesAre(t, hist("0 stored 1 1, 1 begin 0, 0 begin 0, 0 committed 0, 1 committed 0, 1 loaded 1 1"), raceList(0, 5)...)
	racesAre(t, hist("0 stored 1 1, 0 begin 0, 0 stale, 1 begin 0, 1 committed 0, 1 loaded 1 1"), raceList(0, 5)...)
	racesAre(t, hist("0 stored 1 1, 0 begin 0, 0 aborted, 1 begin 0, 1 aborted, 1 loaded 1 1"))
	racesAre(t, hist("0 stored 1 1, 0 begin 0, 0 committed 0, 1 begin 0, 1 read 1 1, 1 failed 6"))
	// The block itself writes, or reads, what is stored behind it.
	racesAre(t, hist("0 begin 0, 0 write 1 1, 0 locked, 0 committed 1, 1 begin 2, 1 committed 1, 1 loaded 1 1, 1 stored 1 2"))
	racesAre(t, hist("1 loaded 1 1, 1 begin 0, 1 committed 0, 0 begin 0, 0 write 1 1, 0 locked, 0 committed 1"))
	// Some of a thread's accesses are ordered, those behind its last block are not.
	racesAre(t, hist("0 stored 1 1, 0 begin 0, 0 committed 0, 0 stored 1 1, 1 loaded 1 1, 1 begin 0, 1 committed 0, 1 loaded 1 1"), raceList(0, 4, 3, 4, 3, 7)...)
	// A Read whose event stands behind a store, though its block is ahead of it.
	racesAre(t, hist("1 begin 0, 0 begin 0, 0 write 5 5, 0 locked, 0 committed 1, 0 stored 2 2, 1 read 2 0, 1 committed 0"))
	racesAre(t, hist("1 begin 0, 0 begin 0, 0 write 5 5, 0 locked, 0 committed 1, 0 stored 2 2, 1 read 2 0, 1 moved 2, 1 committed 1"), raceList(5, 6)...)
}

// P18.2: all pairs, rising by First, then by Second: of each Write of a block, of several threads whose events stand between one another.
func TestOrderOfRaces(t *testing.T) {
	racesAre(t, hist("2 stored 1 1, 0 stored 1 1, 1 loaded 1 1, 0 stored 1 1, 2 loaded 1 1"), raceList(0, 1, 0, 2, 0, 3, 1, 2, 1, 4, 2, 3, 3, 4)...)
	racesAre(t, hist("1 loaded 1 1, 0 begin 0, 0 write 1 1, 2 stored 1 1, 0 write 1 2, 0 read 2 2, 1 loaded 1 1, 0 locked, 0 committed 1, 2 stored 2 1"),
		raceList(0, 2, 0, 3, 0, 4, 2, 3, 2, 6, 3, 4, 3, 6, 4, 6, 5, 9)...)
	// Cells by turns.
	racesAre(t, hist("0 stored 9 1, 0 stored 8 1, 1 stored 8 1, 1 stored 9 1, 7 stored 9 1, 7 stored 8 1"), raceList(0, 3, 0, 4, 1, 2, 1, 5, 2, 5, 3, 4)...)
}

// P18.2: drawn histories, and those of runs, against the model.
func TestRacesDrawn(t *testing.T) {
	d := drawn(3)
	races, quiet := 0, 0
	for n := range 600 {
		h := d.history(100, 1+d.below(8), 1+d.below(6))
		if n%3 == 0 {
			h = run(t, d.script(300)).Events
		} else if n%3 == 1 {
			h = d.history(25, 1+d.below(4), 1+d.below(6))
		}
		m := modeled(h)
		racesAre(t, h, m.races...)
		if races += len(m.races); len(m.races) == 0 && len(m.list) > 4 {
			quiet++
		}
		if t.Failed() {
			return
		}
	}
	if races < 5000 || quiet < 50 {
		t.Errorf("%d races, %d quiet histories", races, quiet)
	}
}

// chain is rounds of blocks of all eight threads, one behind the other, each of which reads and writes the cell 0; behind each its thread loads and stores it plainly, and then has a block of its own, up to so many events.
func chain(most int) []api.Event {
	var h []api.Event
	for number := uint64(0); len(h) < most; {
		thread := int(number % api.MaxThreads)
		h = append(h, api.Event{Thread: thread, Kind: api.Begin, Word: 2 * number}, api.Event{Thread: thread, Kind: api.Read}, api.Event{Thread: thread, Kind: api.Write, Word: number})
		number++
		h = append(h, api.Event{Thread: thread, Kind: api.Locked}, api.Event{Thread: thread, Kind: api.Committed, Word: number})
		h = append(h, api.Event{Thread: thread, Kind: api.Loaded}, api.Event{Thread: thread, Kind: api.Stored, Word: number})
		h = append(h, api.Event{Thread: thread, Kind: api.Begin, Word: 2 * number}, api.Event{Thread: thread, Kind: api.Aborted})
	}
	return h
}

// Long histories take no time that grows with how many accesses of one cell are in order, or can't race.
func TestLongHistories(t *testing.T) {
	h := chain(400000)
	racesAre(t, h)
	last := len(h) - 4
	tells(t, h, nil, last, h[last-3].Word, true)
	aheadIs(t, h, 5, last, true)
	// A store more of the thread that had its last block four turns ago: those that had theirs since race with it, with four accesses each.
	h = append(h, api.Event{Thread: 0, Kind: api.Stored})
	l, err := Races(h)
	if err != api.OK || len(l) != 16 || Quiet(h) {
		t.Errorf("%v, %v", few(l), err)
	}

	// Loads and reads of all threads that nothing orders.
	h = nil
	for thread := range api.MaxThreads / 2 {
		h = append(h, api.Event{Thread: thread, Kind: api.Begin})
	}
	for n := range 400000 {
		kind := api.Loaded
		if n%api.MaxThreads < api.MaxThreads/2 {
			kind = api.Read
		}
		h = append(h, api.Event{Thread: n % api.MaxThreads, Kind: kind})
	}
	for thread := range api.MaxThreads / 2 {
		h = append(h, api.Event{Thread: thread, Kind: api.Committed})
	}
	racesAre(t, h)

	// Each access of a cell of its own.
	for n := range h {
		if h[n].Kind == api.Loaded {
			h[n] = api.Event{Thread: h[n].Thread, Kind: api.Stored, Addr: uint64(n)}
		}
	}
	racesAre(t, h)
	h[400001].Addr = 8
	racesAre(t, h, raceList(8, 400001)...)
}

// P18.2: many races: each of many stores with each of the other threads.
func TestManyRaces(t *testing.T) {
	const many = 1200
	var h []api.Event
	for n := range many {
		h = append(h, api.Event{Thread: n % 3, Kind: api.Stored, Addr: 5, Word: uint64(n)})
	}
	var want []api.Race
	for a := range many {
		for b := a + 1; b < many; b++ {
			if a%3 != b%3 {
				want = append(want, api.Race{First: a, Second: b})
			}
		}
	}
	racesAre(t, h, want...)
}
