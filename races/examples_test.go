package races

import (
	"slices"
	"testing"

	"parley/api"
)

const (
	puts  = "const 1 7 | const 3 1 | begin | put 1 0 | put 3 3 | end | halt"
	gets  = "const 3 1 | begin | get 4 3 | end | load 5 0 | halt"
	loads = "load 0 1 | halt"
)

// after is picks: so many of the thread 0, then of the thread 1, and by turns.
func after(counts ...int) []uint32 {
	var l []uint32
	for n, count := range counts {
		l = append(l, slices.Repeat([]uint32{uint32(n % 2)}, count)...)
	}
	return l
}

// oneRace asks for one race, that of the Write of the cell 0 and the Loaded.
func oneRace(t *testing.T, s api.Script) {
	t.Helper()
	h := run(t, s).Events
	write := slices.IndexFunc(h, func(e api.Event) bool { return e.Kind == api.Write && e.Addr == 0 })
	load := slices.IndexFunc(h, func(e api.Event) bool { return e.Kind == api.Loaded })
	if write < 0 || load < 0 {
		t.Fatal(asText(h))
	}
	racesAre(t, h, api.Race{First: min(write, load), Second: max(write, load)})
	aheadIs(t, h, write, load, false)
	aheadIs(t, h, load, write, false)
	tells(t, h, nil, load, 0, false)
}

// The chapter's examples, row by row.
func TestExamples(t *testing.T) {
	s := script(2, nil, puts, gets)

	s.Picks = after(20, 20)
	h := run(t, s).Events
	racesAre(t, h)
	load := slices.Index(h, api.Event{Thread: 1, Kind: api.Loaded, Word: 7})
	tells(t, h, nil, load, 7, true)
	tells(t, h, []uint64{5, 5}, load, 7, true)
	accessesAre(t, h, access(1, 0, 0, "w"), access(2, 0, 1, "w"), access(7, 1, 1, ""), access(9, 1, 0, "p"))

	s.Picks = after(0, 5, 20, 20)
	oneRace(t, s)
	s.Picks = after(0, 20, 20)
	oneRace(t, s)

	s = script(1, nil, loads, loads)
	s.Picks = after(2, 2)
	racesAre(t, run(t, s).Events)

	becomes(t, prog("begin | get 0 1 | end | load 2 3 | halt"), prog("begin | get 0 1 | end | begin | get 2 3 | end | halt"))
}

// DOC.md's example 7: two threads that store plainly into one cell.
func TestExampleOfTheWhole(t *testing.T) {
	s := script(1, nil, "const 0 1 | store 0 1 | halt", "const 0 2 | store 0 1 | halt")
	for _, picks := range [][]uint32{after(3, 3), after(0, 3, 3), after(1, 1, 1, 1)} {
		s.Picks = picks
		h := run(t, s).Events
		l, err := Races(h)
		if err != api.OK || len(l) != 1 || h[l[0].First].Kind != api.Stored || h[l[0].Second].Kind != api.Stored {
			t.Errorf("%s: %v, %v", asText(h), l, err)
		}
	}
}
