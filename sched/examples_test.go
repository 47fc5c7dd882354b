package sched

import (
	"slices"
	"testing"

	"parley/api"
)

func event(thread int, kind api.EventKind, addr, word uint64) api.Event {
	return api.Event{Thread: thread, Kind: kind, Addr: addr, Word: word}
}

// block is what a thread tells that adds 1 to the cell 0, from its read on.
func block(thread int, word, number uint64) []api.Event {
	return []api.Event{event(thread, api.Read, 0, word), event(thread, api.Write, 0, word+1), event(thread, api.Locked, 0, 0),
		event(thread, api.Committed, 0, number), event(thread, api.Halted, 0, 0)}
}

// The chapter's examples, row by row.
func TestExamples(t *testing.T) {
	o, err := Run(chapters())
	start := api.Thread{Status: api.Running}
	if err != api.OK || !sameOutcome(o, api.Outcome{Cells: []uint64{5, 0}, Threads: []api.Thread{start, start}}) {
		t.Errorf("Run without picks: %+v, %v", o, err)
	}

	d := made(t, chapters())
	first := append([]api.Event{event(0, api.Begin, 0, 0)}, block(0, 5, 1)...)
	if n := alone(t, d, 0, 100); n != 10 || d.Outcome().Threads[0].Status != api.Ended || !slices.Equal(d.Outcome().Events, first) {
		t.Errorf("Alone: %d, %+v", n, d.Outcome())
	}
	if n := turns(t, d, 100); n != 20 || d.Outcome().Cells[0] != 7 || d.Outcome().Clock != 4 || !d.AtRest() {
		t.Errorf("Turns: %d, %+v", n, d.Outcome())
	}

	for n, change := range []func(*api.Script){
		func(s *api.Script) { s.Cells = 0 },
		func(s *api.Script) { s.Programs = nil },
		func(s *api.Script) { s.First = []uint64{1, 2, 3} },
		func(s *api.Script) { s.Programs[1] = prog("begin | halt") },
	} {
		s := chapters()
		change(&s)
		if err := Check(s); err != api.ErrScript {
			t.Errorf("Check %d: %v", n, err)
		}
	}

	d = made(t, chapters())
	d.Pick(0)
	d.Pick(1)
	for range 8 {
		d.Pick(1)
	}
	if o := d.Outcome(); o.Clock != 2 || o.Threads[1].Inside || o.Cells[0] != 6 {
		t.Errorf("thread 1 has not committed: %+v", o)
	}
	alone(t, d, 0, 100)
	want := slices.Concat([]api.Event{event(0, api.Begin, 0, 0), event(0, api.Moved, 0, 2)}, block(0, 6, 2))
	var got []api.Event
	for _, e := range d.Outcome().Events {
		if e.Thread == 0 {
			got = append(got, e)
		}
	}
	if !slices.Equal(got, want) {
		t.Errorf("thread 0: %v", got)
	}
}

// DOC.md's examples 1 and 2: one that adds alone, two that add by turns.
func TestAddsOfTheWhole(t *testing.T) {
	const adds1 = "const 2 1 | begin | get 0 1 | add 0 0 2 | put 0 1 | end | halt"
	s := script(1, nil, adds1)
	d := made(t, s)
	want := []api.EventKind{0, api.Begin, 0, api.Read, 0, api.Write, api.Locked, 0, api.Committed, api.Halted}
	for n, kind := range want {
		l, _ := d.Pick(uint32(n))
		if len(l) > 1 || (len(l) == 1) != (kind != 0) || len(l) == 1 && l[0].Kind != kind {
			t.Errorf("step %d: %v", n, l)
		}
	}
	if o := d.Outcome(); o.Cells[0] != 1 || o.Clock != 2 {
		t.Errorf("%+v", o)
	}
	d = made(t, script(1, nil, adds1, adds1))
	d.Turns(100)
	o := d.Outcome()
	again := []api.EventKind{api.Begin, api.Read, api.Write, api.Stale, api.Begin, api.Read, api.Write, api.Locked, api.Committed, api.Halted}
	if o.Cells[0] != 2 || o.Clock != 4 || !slices.Equal(kinds(o.Events, 1), again) || slices.Contains(kinds(o.Events, 0), api.Stale) {
		t.Errorf("%+v", o)
	}
}

// DOC.md's example 3: whatever the picks, both cells are read as of one time.
func TestBothAtOneTime(t *testing.T) {
	s := script(2, nil, "const 0 7 | const 2 1 | begin | put 0 1 | put 0 2 | end | halt", "const 2 1 | begin | get 3 1 | get 4 2 | end | halt")
	draw := drawn(21)
	seen := [2]int{}
	for range 2000 {
		d := made(t, s)
		for !d.AtRest() {
			d.Pick(uint32(draw.next()))
			if at := d.Outcome().Threads[1]; len(at.Attempt.Reads) == 2 && at.Attempt.Reads[0].Word != at.Attempt.Reads[1].Word {
				t.Fatalf("%+v", at)
			}
		}
		regs := d.Outcome().Threads[1].Regs
		if regs[3] != regs[4] || regs[3] != 0 && regs[3] != 7 {
			t.Fatalf("it has read %d and %d", regs[3], regs[4])
		}
		seen[regs[3]/7]++
	}
	if seen[0] == 0 || seen[1] == 0 {
		t.Errorf("seen: %v", seen)
	}
}

// DOC.md's examples 6, 7 and 10: a cell that there is not, plain stores, scripts that may not be.
func TestOthersOfTheWhole(t *testing.T) {
	s := script(1, nil, "const 1 9 | begin | get 0 1 | end | halt")
	s.Picks = []uint32{0, 0, 0}
	o, _ := Run(s)
	th := o.Threads[0]
	if th.Status != api.Broken || th.Err != api.ErrRange || th.At != 1 || th.Regs != [8]uint64{1: 9} || o.Events[1] != (api.Event{Kind: api.Failed, Err: api.ErrRange}) {
		t.Errorf("%+v", o)
	}
	two := script(1, nil, "const 0 1 | store 0 1 | halt", "const 0 2 | store 0 1 | halt")
	for _, x := range []struct {
		picks []uint32
		word  uint64
	}{{[]uint32{0, 1, 0, 1}, 2}, {[]uint32{0, 1, 1, 0}, 1}, {[]uint32{0, 0, 1}, 1}} {
		two.Picks = x.picks
		if o, _ := Run(two); o.Cells[0] != x.word {
			t.Errorf("%v: %d", x.picks, o.Cells[0])
		}
	}
	for _, s := range []api.Script{script(0, nil, "halt"), script(1, nil), script(1, nil, "begin")} {
		refused(t, "example 10", s)
	}
}
