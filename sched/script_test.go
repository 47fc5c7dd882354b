package sched

import (
	"fmt"
	"math"
	"reflect"
	"slices"
	"testing"

	"parley/api"
)

// refused asks Check, Run and New for ErrScript, and for nothing beside it.
func refused(t *testing.T, what string, s api.Script) {
	t.Helper()
	if err := Check(s); err != api.ErrScript {
		t.Errorf("%s: Check answers %v", what, err)
	}
	if o, err := Run(s); err != api.ErrScript || !reflect.DeepEqual(o, api.Outcome{}) {
		t.Errorf("%s: Run answers %+v, %v", what, o, err)
	}
	if d, err := New(s); err != api.ErrScript || d != nil {
		t.Errorf("%s: New answers %v, %v", what, d, err)
	}
}

// taken asks Check, Run and New for a run of the script: New at the beginning, Run behind all picks.
func taken(t *testing.T, what string, s api.Script) {
	t.Helper()
	if err := Check(s); err != api.OK {
		t.Errorf("%s: Check answers %v", what, err)
	}
	d, err := New(s)
	if err != api.OK || d == nil {
		t.Fatalf("%s: New answers %v, %v", what, d, err)
	}
	h := handOf(s)
	stands(t, d, h)
	for _, n := range s.Picks {
		h.pick(n)
	}
	o, err := Run(s)
	if err != api.OK || !sameOutcome(o, h.outcome()) {
		t.Errorf("%s: Run answers %v", what, err)
	}
	if len(o.Threads) != len(s.Programs) || len(o.Cells) != s.Cells || o.Steps != len(s.Picks) {
		t.Errorf("%s: Run tells %d threads, %d cells, %d steps", what, len(o.Threads), len(o.Cells), o.Steps)
	}
}

// P12.1: how many cells, first words, threads and picks a script may have.
func TestMeasures(t *testing.T) {
	for _, x := range []struct {
		cells, first, programs, picks int
		may                           bool
	}{
		{1, 0, 1, 0, true}, {1, 1, 1, 1, true}, {65536, 0, 1, 0, true}, {65536, 65536, 8, 20, true}, {65535, 65535, 7, 3, true}, {3, 3, 2, 9, true},
		{0, 0, 1, 0, false}, {-1, 0, 1, 0, false}, {math.MinInt, 0, 1, 0, false}, {65537, 0, 1, 0, false}, {math.MaxInt, 0, 1, 0, false}, {1 << 32, 0, 1, 0, false},
		{1, 2, 1, 0, false}, {3, 4, 1, 0, false}, {65536, 65537, 1, 0, false}, {65537, 65537, 1, 0, false},
		{1, 0, 0, 0, false}, {1, 0, 9, 0, false}, {1, 0, 100, 0, false},
		{1, 0, 1, 1 << 20, true}, {1, 0, 3, 1<<20 - 1, true}, {1, 0, 1, 1<<20 + 1, false}, {1, 0, 1, 1 << 21, false},
		{0, 0, 0, 0, false}, {65537, 65537, 9, 1<<20 + 1, false},
	} {
		s := api.Script{Cells: x.cells, First: slices.Repeat([]uint64{7}, x.first), Picks: slices.Repeat([]uint32{4}, x.picks)}
		for range x.programs {
			s.Programs = append(s.Programs, prog(adds))
		}
		what := fmt.Sprintf("%d cells, %d first words, %d programs, %d picks", x.cells, x.first, x.programs, x.picks)
		if x.may {
			taken(t, what, s)
		} else {
			refused(t, what, s)
		}
	}
	refused(t, "nothing", api.Script{})
	refused(t, "no program", api.Script{Cells: 1, First: []uint64{}, Programs: [][]api.Instr{}, Picks: []uint32{}})
	taken(t, "empty lists", api.Script{Cells: 1, First: []uint64{}, Programs: [][]api.Instr{prog("halt")}, Picks: []uint32{}})
}

// P12.1: a program that may not run, alone and at each place among others.
func TestPrograms(t *testing.T) {
	halt := prog("halt")
	wrong := [][]api.Instr{nil, {}, slices.Repeat(halt, 257), {{}, halt[0]}, {{Op: 18}, halt[0]}, {{Op: api.OpConst, A: 8}, halt[0]},
		prog("jump 1"), prog("const 0 1"), prog("begin | halt"), prog("begin | get 0 1 | end"), prog("end | halt"), prog("get 0 0 | halt"),
		prog("zero 0 2 | begin | end | halt"), prog("begin | begin | end | halt"), prog("begin | load 0 0 | end | halt")}
	for _, p := range wrong {
		for n := 1; n <= api.MaxThreads; n++ {
			for at := range n {
				s := api.Script{Cells: 2, Programs: slices.Repeat([][]api.Instr{prog(adds)}, n), Picks: []uint32{1, 2}}
				s.Programs[at] = p
				refused(t, "a program that may not run", s)
			}
		}
	}
	for _, p := range [][]api.Instr{halt, slices.Repeat(halt, 256), prog("jump 0"), prog("jump 2 | get 0 0 | halt"), prog("begin | abort 0"), prog("load 0 1 | store 0 1 | halt")} {
		taken(t, "a program that may run", api.Script{Cells: 2, Programs: [][]api.Instr{p}, Picks: []uint32{0, 0, 0, 0}})
		taken(t, "two programs that may run", api.Script{Cells: 2, Programs: [][]api.Instr{prog(adds), p}, Picks: []uint32{0, 1, 0, 1}})
	}
}

// P12.1: the cells are the first words, then noughts; the clock is 0; the threads are at 0; New does none of the picks.
func TestBeginning(t *testing.T) {
	s := script(5, []uint64{top, 0, 9}, adds, "halt", "begin | end | halt")
	s.Picks = []uint32{0, 1, 2, 0}
	d := made(t, s)
	o := d.Outcome()
	if !slices.Equal(o.Cells, []uint64{top, 0, 9, 0, 0}) || o.Clock != 0 || o.Steps != 0 || len(o.Events) != 0 || len(o.Threads) != 3 {
		t.Errorf("it begins at %+v", o)
	}
	for n, th := range o.Threads {
		if !sameThread(th, api.Thread{Status: api.Running}) {
			t.Errorf("thread %d begins at %+v", n, th)
		}
	}
	if n := picks(t, d, 1); n != 1 || d.Outcome().Steps != 1 || d.Outcome().Threads[0].At != 0 {
		t.Error("the script's picks were done by New")
	}
	full := script(3, []uint64{1, 2, 3}, "halt")
	if o := made(t, full).Outcome(); !slices.Equal(o.Cells, []uint64{1, 2, 3}) {
		t.Errorf("the cells are %v", o.Cells)
	}
}

// P12.1: Run with no picks, some, and more than the run has steps: all of them are done.
func TestRunPicks(t *testing.T) {
	for _, n := range []int{0, 1, 2, 9, 10, 11, 19, 20, 21, 25, 60} {
		s := chapters()
		for at := range n {
			s.Picks = append(s.Picks, uint32(at/10))
		}
		o, err := Run(s)
		h := handOf(s)
		for _, p := range s.Picks {
			h.pick(p)
		}
		if err != api.OK || o.Steps != n || !sameOutcome(o, h.outcome()) {
			t.Errorf("Run of %d picks: %+v, %v", n, o, err)
		}
	}
	s := chapters()
	s.Picks = slices.Repeat([]uint32{0, math.MaxUint32}, 1<<19)
	o, err := Run(s)
	if err != api.OK || o.Steps != 1<<20 || o.Cells[0] != 7 || o.Clock != 4 || o.Threads[1].Status != api.Ended {
		t.Errorf("Run of all picks that may be: %d steps, %v, %d", o.Steps, o.Cells, o.Clock)
	}
	d := made(t, s)
	if n := picks(t, d, s.Picks...); n >= 100 || d.Outcome().Steps != n { // Picks does not go on behind the end
		t.Errorf("Picks did %d", n)
	}
}

// P12.1: what is handed in stays, spare room included, and is not kept; what is told is new memory.
func TestScriptMemory(t *testing.T) {
	draw := drawn(5)
	for range 200 {
		s := draw.script(true)
		s.Picks = draw.list(draw.below(60))
		s.First = append(slices.Grow(s.First, 9), 3)[:len(s.First)]
		before := api.Script{Cells: s.Cells, First: slices.Clone(s.First[:cap(s.First)]), Picks: slices.Clone(s.Picks[:cap(s.Picks)])}
		for n := range s.Programs {
			s.Programs[n] = slices.Grow(s.Programs[n], 5)
			before.Programs = append(before.Programs, slices.Clone(s.Programs[n][:cap(s.Programs[n])]))
		}
		want := handOf(s)
		for _, n := range s.Picks {
			want.pick(n)
		}
		d := made(t, s)
		a, _ := Run(s)
		b, _ := Run(s)
		list := slices.Clone(s.Picks)
		if !slices.Equal(before.First, s.First[:cap(s.First)]) || !slices.Equal(before.Picks, s.Picks[:cap(s.Picks)]) {
			t.Fatal("the script was changed")
		}
		for n, p := range s.Programs {
			if !slices.Equal(before.Programs[n], p[:cap(p)]) {
				t.Fatal("a program was changed")
			}
			clear(p[:cap(p)])
		}
		clear(s.First[:cap(s.First)])
		clear(s.Picks[:cap(s.Picks)])
		clear(s.Programs)
		spoil(a)
		if !sameOutcome(b, want.outcome()) {
			t.Fatal("an outcome shares memory with the script or with another one")
		}
		for _, n := range list {
			if _, err := d.Pick(n); err != api.OK {
				t.Fatal(err)
			}
		}
		stands(t, d, want)
	}
}
