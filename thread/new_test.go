package thread

import (
	"math"
	"slices"
	"testing"

	"parley/api"
	"parley/cells"
	"parley/seq"
)

// refused asks New and From for an error, and for nothing beside it.
func refused(t *testing.T, p []api.Instr, row *cells.Row, clock *seq.Clock, want api.Errno) {
	t.Helper()
	if x, err := New(p, row, clock); x != nil || err != want {
		t.Errorf("New of %d instructions answers %v, %v", len(p), x, err)
	}
	if x, err := From(api.Thread{Status: api.Running}, p, row, clock); x != nil || err != want {
		t.Errorf("From of %d instructions answers %v, %v", len(p), x, err)
	}
}

// taken asks New for a thread at its beginning, and From for one that stands there.
func taken(t *testing.T, p []api.Instr) {
	t.Helper()
	start := api.Thread{Status: api.Running}
	row, clock := rowOf(t, 5, 6), seq.From(3)
	x := made(t, p, row, clock)
	y, err := From(start, p, row, clock)
	if err != api.OK || y == nil {
		t.Fatalf("From answers %v, %v", y, err)
	}
	if !sameState(x.State(), start) || !sameState(y.State(), start) {
		t.Errorf("New stands at %+v, From at %+v", x.State(), y.State())
	}
	if row.Accesses() != 0 || clock.Steps() != 0 {
		t.Error("New or From is an access")
	}
}

// P11.1: a row or a clock that is not there, a zero one among them, ahead of all else.
func TestNothingThere(t *testing.T) {
	row, clock := rowOf(t, 1), seq.New()
	for _, p := range [][]api.Instr{prog("halt"), nil, {{Op: 99}}} {
		refused(t, p, nil, clock, api.ErrNil)
		refused(t, p, row, nil, api.ErrNil)
		refused(t, p, nil, nil, api.ErrNil)
		refused(t, p, &cells.Row{}, clock, api.ErrNil)
		refused(t, p, row, &seq.Clock{}, api.ErrNil)
	}
	if x, err := From(api.Thread{}, nil, row, nil); x != nil || err != api.ErrNil {
		t.Error(err)
	}
	if x, err := From(api.Thread{}, nil, row, clock); x != nil || err != api.ErrCode {
		t.Error(err)
	}
	if x, err := From(api.Thread{}, prog("halt"), row, clock); x != nil || err != api.ErrArg {
		t.Error(err)
	}
}

// P11.1: how many instructions, and whether each of them is formed.
func TestFormed(t *testing.T) {
	row, clock := rowOf(t, 1), seq.New()
	halt := prog("halt")
	refused(t, nil, row, clock, api.ErrCode)
	refused(t, []api.Instr{}, row, clock, api.ErrCode)
	refused(t, slices.Repeat(halt, 257), row, clock, api.ErrCode)
	refused(t, slices.Repeat(halt, 1000), row, clock, api.ErrCode)
	taken(t, halt)
	taken(t, slices.Repeat(halt, 256))
	wrong := []api.Instr{{}, {Op: 18}, {Op: -1}, {Op: math.MaxInt}, {Op: math.MinInt}, {Op: api.OpHalt, N: 1}, {Op: api.OpHalt, A: 1},
		{Op: api.OpAdd, C: 8}, {Op: api.OpAdd, B: -1}, {Op: api.OpGet, A: 8}, {Op: api.OpGet, C: 1}, {Op: api.OpEnd, N: 7}, {Op: api.OpConst, B: 1}}
	for _, i := range wrong {
		for _, n := range []int{1, 3, 256} {
			for _, at := range []int{0, n / 2, n - 1} {
				p := slices.Repeat(halt, n)
				p[at] = i
				refused(t, p, row, clock, api.ErrCode)
			}
		}
	}
}

// P11.1: a program that is formed, but may not run (layer 10), is taken.
func TestMayNotRun(t *testing.T) {
	for _, text := range []string{"end", "get 0 0", "const 0 1", "jump 18446744073709551615", "begin", "begin | halt", "begin | begin | halt", "zero 0 2 | begin | end | halt"} {
		taken(t, prog(text))
	}
}

// tried is an attempt that a state may have: whether layer 7 takes it, and which instruction it needs at At, if any.
type tried struct {
	a     api.Attempt
	taken bool
	needs api.Op
}

// triedOnes are attempts of each phase.
func triedOnes() []tried {
	reads, writes := []api.Cell{{Addr: 0, Word: 5}}, []api.Cell{{Addr: 1, Word: 7}}
	load, lock := api.PhaseLoad, api.PhaseLock
	return []tried{
		{api.Attempt{}, false, 0},
		{api.Attempt{Reads: []api.Cell{}, Writes: []api.Cell{}}, false, 0},
		{api.Attempt{Phase: api.PhaseIdle}, true, 0},
		{api.Attempt{Phase: api.PhaseIdle, Snapshot: 4, Reads: reads, Writes: writes}, true, 0},
		{api.Attempt{Phase: api.PhaseIdle, Snapshot: 3}, false, 0},
		{api.Attempt{Phase: api.PhaseIdle, Then: load}, false, 0},
		{api.Attempt{Phase: api.PhaseLoad, Addr: 9}, true, api.OpGet},
		{api.Attempt{Phase: api.PhaseLoad, Addr: 1, Writes: writes}, false, 0},
		{api.Attempt{Phase: api.PhaseLook, Addr: 1, Word: 5, Reads: reads}, true, api.OpGet},
		{api.Attempt{Phase: api.PhaseWait, Then: load, Addr: 1}, true, api.OpGet},
		{api.Attempt{Phase: api.PhaseWait, Then: lock, Writes: writes}, true, api.OpEnd},
		{api.Attempt{Phase: api.PhaseWait, Then: lock}, false, 0},
		{api.Attempt{Phase: api.PhaseWait, Then: api.PhaseWait}, false, 0},
		{api.Attempt{Phase: api.PhaseCheck, Then: load, Addr: 1, Found: 2, Reads: reads}, true, api.OpGet},
		{api.Attempt{Phase: api.PhaseCheck, Then: lock, Found: 2, Reads: reads, Writes: writes}, true, api.OpEnd},
		{api.Attempt{Phase: api.PhaseCheck, Then: load, Addr: 1, At: 1, Reads: reads}, false, 0},
		{api.Attempt{Phase: api.PhaseClose, Then: load, Addr: 1, Found: 6}, true, api.OpGet},
		{api.Attempt{Phase: api.PhaseClose, Then: lock, Found: 6, Writes: writes}, true, api.OpEnd},
		{api.Attempt{Phase: api.PhaseClose, Then: lock, Found: 7, Writes: writes}, false, 0},
		{api.Attempt{Phase: api.PhaseLock, Writes: writes}, true, api.OpEnd},
		{api.Attempt{Phase: api.PhaseStore, Writes: writes}, true, api.OpEnd},
		{api.Attempt{Phase: api.PhaseStore, Writes: writes, At: 1}, false, 0},
		{api.Attempt{Phase: api.PhaseFree, Writes: writes}, true, api.OpEnd},
		{api.Attempt{Phase: api.PhaseFree}, false, 0},
		{api.Attempt{Phase: api.PhaseOver}, false, 0},
		{api.Attempt{Phase: 11}, false, 0},
		{api.Attempt{Phase: -1}, false, 0},
	}
}

// modelMayBe tells whether a state may be, its attempt being a known one.
func modelMayBe(s api.Thread, p []api.Instr, a tried) bool {
	errs := map[api.Status]bool{api.Running: s.Err == 0, api.Ended: s.Err == 0, api.Broken: s.Err != 0}
	if !errs[s.Status] || s.At < 0 {
		return false
	}
	if !s.Inside {
		plain := a.a.Phase == 0 // the one phase that is zero is that of attempts that are zero
		return plain && s.Saved == [8]uint64{} && s.Start == 0 && s.Fuel == 0
	}
	if s.Status != api.Running || !a.taken || s.Start != 0 && s.Start != 5 {
		return false
	}
	if a.needs == 0 {
		return s.Fuel >= 0 && s.Fuel < 4097
	}
	return s.Fuel > 0 && s.Fuel < 4097 && s.At < len(p) && p[s.At].Op == a.needs
}

// P11.1: From takes what may be, and nothing else: all states out of a few values for each part. (Of those that it takes it stands there.)
func TestFromMayBe(t *testing.T) {
	p := prog("begin | get 0 1 | put 0 1 | end | halt | begin | get 1 1 | abort 0")
	row, clock := rowOf(t, 5, 6), seq.New()
	counts := map[bool]int{}
	all := triedOnes()
	ask := func(s api.Thread, a tried) {
		s.Attempt = a.a
		x, err := From(s, p, row, clock)
		want := modelMayBe(s, p, a)
		counts[want]++
		switch {
		case want && (err != api.OK || x == nil):
			t.Fatalf("From of %+v answers %v", s, err)
		case want && !sameState(x.State(), s):
			t.Fatalf("From of %+v stands at %+v", s, x.State())
		case !want && (err != api.ErrArg || x != nil):
			t.Fatalf("From of %+v answers %v, %v", s, x, err)
		}
	}
	for _, status := range []api.Status{-1, 0, 1, 2, 3, 4} {
		for _, errno := range []api.Errno{0, api.ErrPlace, -1} {
			for _, at := range []int{math.MinInt, -1, 0, 1, 2, 3, 6, 7, 8, 300, math.MaxInt} {
				for _, inside := range []bool{false, true} {
					s := api.Thread{Status: status, Err: errno, At: at, Inside: inside, Regs: [8]uint64{3, 7: top}}
					for _, start := range []int{math.MinInt, -1, 0, 1, 4, 5, 8, math.MaxInt} {
						for _, fuel := range []int{math.MinInt, -1, 0, 1, 4096, 4097, math.MaxInt} {
							s.Start, s.Fuel = start, fuel
							for _, a := range all {
								ask(s, a)
							}
						}
					}
				}
			}
		}
	}
	if counts[true] < 200 || counts[false] < 500 {
		t.Error(counts)
	}
}

// P11.1: outside each part that is zero there is asked by itself; inside each register ahead of the begin may be anything.
func TestFromOutside(t *testing.T) {
	p := prog("begin | get 0 1 | end | halt")
	row, clock := rowOf(t, 5, 6), seq.New()
	for _, status := range []api.Status{api.Running, api.Ended, api.Broken} {
		s := api.Thread{Status: status, At: 2}
		if status == api.Broken {
			s.Err = api.ErrFuel
		}
		if x, err := From(s, p, row, clock); err != api.OK || x.Status() != status {
			t.Errorf("From of %+v answers %v", s, err)
		}
		for n := range 8 {
			s := s
			s.Saved[n] = 1
			if x, err := From(s, p, row, clock); x != nil || err != api.ErrArg {
				t.Errorf("From of %+v answers %v", s, err)
			}
			s.Inside, s.Attempt.Phase = true, api.PhaseIdle
			if x, err := From(s, p, row, clock); (err == api.OK) != (status == api.Running) || err == api.OK && x.State().Saved != s.Saved {
				t.Errorf("From of %+v answers %v", s, err)
			}
		}
		wrong := []api.Attempt{{Snapshot: 2}, {Reads: make([]api.Cell, 1)}, {Writes: make([]api.Cell, 1)}, {Phase: api.PhaseIdle}, {Phase: api.PhaseOver},
			{Then: api.PhaseLoad}, {Addr: 1}, {Word: 1}, {Found: 2}, {At: 1}, {At: -1}}
		for _, a := range wrong {
			s := s
			s.Attempt = a
			if x, err := From(s, p, row, clock); x != nil || err != api.ErrArg {
				t.Errorf("From of %+v answers %v", s, err)
			}
		}
	}
}

// P11.1: an attempt with full logs, and one entry more.
func TestFromFull(t *testing.T) {
	p := prog("begin | get 0 1 | end | halt")
	row, clock := rowOf(t, 5, 6), seq.New()
	many := make([]api.Cell, 1025)
	for n := range many {
		many[n].Addr = uint64(n)
	}
	s := api.Thread{Status: api.Running, At: 1, Inside: true, Attempt: api.Attempt{Phase: api.PhaseIdle, Reads: many[:1024], Writes: many[:1024]}}
	x, err := From(s, p, row, clock)
	if err != api.OK || !sameState(x.State(), s) {
		t.Fatal(err)
	}
	for _, a := range []api.Attempt{{Phase: api.PhaseIdle, Reads: many}, {Phase: api.PhaseIdle, Writes: many}, {Phase: api.PhaseIdle, Writes: make([]api.Cell, 2)}} {
		s.Attempt = a
		if x, err := From(s, p, row, clock); x != nil || err != api.ErrArg {
			t.Error(err)
		}
	}
}

// P11.1: what is handed in stays, spare room behind it included, and is not kept.
func TestHandedInStays(t *testing.T) {
	p := append(make([]api.Instr, 0, 20), prog("begin | get 0 1 | put 0 2 | end | halt")...)
	reads, writes := append(make([]api.Cell, 0, 9), api.Cell{Addr: 1, Word: 6}), append(make([]api.Cell, 0, 9), api.Cell{Addr: 0, Word: 9})
	held := [][]api.Cell{slices.Clone(reads[:9]), slices.Clone(writes[:9])}
	code := slices.Clone(p[:20])
	row, clock := rowOf(t, 5, 6), seq.New()
	s := api.Thread{Status: api.Running, At: 1, Inside: true, Fuel: 2, Attempt: api.Attempt{Phase: api.PhaseIdle, Reads: reads, Writes: writes}}
	one, _ := From(s, p, row, clock)
	two := made(t, p, row.Copy(), clock.Copy())
	three := one.Copy(row.Copy(), clock.Copy())
	four := two.Copy(row.Copy(), clock.Copy())
	steps(t, one, 20)
	if !slices.Equal(reads[:9], held[0]) || !slices.Equal(writes[:9], held[1]) || !slices.Equal(p[:20], code) {
		t.Error("what was handed in has changed")
	}
	clear(reads[:9])
	clear(writes[:9])
	clear(p[:20])
	for _, x := range []*Thread{two, three, four} {
		if steps(t, x, 20); x.Status() != api.Ended {
			t.Errorf("%+v", x.State())
		}
	}
	if w := row.Words(); !slices.Equal(w, []uint64{9, 6}) {
		t.Error(w)
	}
}
