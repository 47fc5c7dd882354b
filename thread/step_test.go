package thread

import (
	"math"
	"slices"
	"strconv"
	"testing"

	"parley/api"
	"parley/seq"
)

// ends steps a program over the cells 5 6 7 and an open clock until it is Ended or Broken, and asks for its events and its last state.
func ends(t *testing.T, text string, events []api.Event, want api.Thread) {
	t.Helper()
	x := made(t, prog(text), rowOf(t, 5, 6, 7), seq.New())
	var got []api.Event
	for range 20000 {
		if x.Status() != api.Running {
			break
		}
		got = append(got, steps(t, x, 1)...)
	}
	if !slices.Equal(got, events) {
		t.Errorf("%s: the events %v", text, got)
	}
	if !sameState(x.State(), want) {
		t.Errorf("%s: the state %+v", text, x.State())
	}
}

var (
	begun  = api.Event{Kind: api.Begin}
	halted = api.Event{Kind: api.Halted}
)

func failed(err api.Errno) api.Event            { return api.Event{Kind: api.Failed, Err: err} }
func read(addr, word uint64) api.Event          { return api.Event{Kind: api.Read, Addr: addr, Word: word} }
func wrote(addr, word uint64) api.Event         { return api.Event{Kind: api.Write, Addr: addr, Word: word} }
func committed(number uint64) api.Event         { return api.Event{Kind: api.Committed, Word: number} }
func regs(words ...uint64) (r [api.Regs]uint64) { copy(r[:], words); return r }

// ended and broken are how threads are left.
func ended(at int, words ...uint64) api.Thread {
	return api.Thread{Status: api.Ended, At: at, Regs: regs(words...)}
}

func broken(err api.Errno, at int, words ...uint64) api.Thread {
	return api.Thread{Status: api.Broken, Err: err, At: at, Regs: regs(words...)}
}

// P11.2: nothing is done by a thread that is not there, that is Ended, or that is Broken.
func TestStepNothing(t *testing.T) {
	for _, x := range []*Thread{nil, {}} {
		if e, ok, err := x.Step(); e != (api.Event{}) || ok || err != api.ErrNil {
			t.Errorf("Step answers %v, %v, %v", e, ok, err)
		}
	}
	p := prog("begin | get 0 0 | put 0 0 | end | halt")
	for _, s := range []api.Thread{ended(0, 4), ended(99), broken(api.ErrRange, 0, 1, 2), broken(-7, math.MaxInt)} {
		row, clock := rowOf(t, 5, 6, 7), seq.New()
		x, err := From(s, p, row, clock)
		if err != api.OK {
			t.Fatal(err)
		}
		if l := steps(t, x, 5); l != nil || !sameState(x.State(), s) || row.Accesses() != 0 || clock.Steps() != 0 {
			t.Errorf("%v, %+v", l, x.State())
		}
	}
}

// P11.2: each operation between registers, outside and inside, with registers alike and unlike.
func TestReckon(t *testing.T) {
	words := []uint64{0, 1, 2, 7, 1 << 32, 1<<63 - 1, 1 << 63, top - 1, top}
	for _, op := range []api.Op{api.OpConst, api.OpMove, api.OpAdd, api.OpSub, api.OpMul, api.OpLess, api.OpEqual} {
		for n := range 8 * 8 * 8 {
			i := api.Instr{Op: op, A: n % 8, B: n / 8 % 8, C: n / 64}
			switch {
			case op == api.OpConst:
				i.B, i.C, i.N = 0, 0, words[n%len(words)]
			case op == api.OpMove:
				i.C = 0
			}
			for shift := range words {
				reckon(t, i, words, shift)
			}
		}
	}
}

// reckon does one instruction outside and inside.
func reckon(t *testing.T, i api.Instr, words []uint64, shift int) {
	t.Helper()
	s := api.Thread{Status: api.Running, At: 1}
	for n := range s.Regs {
		s.Regs[n] = words[(n*(shift+1)+shift)%len(words)]
	}
	for _, inside := range []bool{false, true} {
		if s.Inside = inside; inside {
			s.Attempt.Phase, s.Saved, s.Fuel = api.PhaseIdle, regs(9, 8), 5
		}
		row, clock := rowOf(t, 1), seq.New()
		x, err := From(s, []api.Instr{{Op: api.OpBegin}, i}, row, clock)
		if err != api.OK {
			t.Fatal(err)
		}
		want := s
		want.At = 2
		want.Regs[i.A] = modelReckon(i, s.Regs[i.B], s.Regs[i.C])
		if inside {
			want.Fuel = 6
		}
		if e := step(t, x); e.Kind != 0 || !sameState(x.State(), want) || row.Accesses() != 0 || clock.Steps() != 0 {
			t.Fatalf("%v of %v: %v, %+v", i, s.Regs, e, x.State())
		}
	}
}

// P11.2: each operation where it may stand, and where it may not: then the thread is Broken with ErrPlace.
func TestPlaces(t *testing.T) {
	both := []string{"const 1 2", "move 1 2", "add 1 2 3", "sub 1 2 3", "mul 1 2 3", "less 1 2 3", "equal 1 2 3", "jump 0", "zero 1 0", "zero 7 0"}
	outside := []string{"load 0 0", "store 0 0", "begin", "halt"}
	inside := []string{"get 0 0", "put 0 0", "end", "abort 3"}
	for n, l := range [][]string{both, outside, inside} {
		for _, text := range l {
			mayStand(t, text, n != 2, n != 1)
		}
	}
}

// mayStand does an instruction outside, and inside with some fuel, with its last one, and with none left.
func mayStand(t *testing.T, text string, outside, inside bool) {
	t.Helper()
	p := prog("halt | begin | " + text)
	row := rowOf(t, 5, 6, 7)
	s := api.Thread{Status: api.Running, At: 2, Regs: regs(1, 2, 1)}
	x, _ := From(s, p, row, seq.New())
	e := step(t, x)
	if (e == failed(api.ErrPlace)) == outside || !outside && !sameState(x.State(), broken(api.ErrPlace, 2, 1, 2, 1)) {
		t.Errorf("%s outside: %v, %+v", text, e, x.State())
	}
	s.Inside, s.Start, s.Saved = true, 1, regs(4, 4)
	for _, fuel := range []int{0, 4095, 4096} {
		s.Fuel, s.Attempt = fuel, api.Attempt{Phase: api.PhaseIdle, Writes: []api.Cell{{Addr: 2, Word: 1}}}
		clock := seq.New()
		x, _ = From(s, p, row, clock)
		e = step(t, x)
		want := api.OK
		switch {
		case !inside:
			want = api.ErrPlace
		case fuel == 4096:
			want = api.ErrFuel
		}
		if e.Err != want || want != api.OK && (e != failed(want) || !sameState(x.State(), broken(want, 1, 4, 4)) || clock.Steps() != 0) {
			t.Errorf("%s inside: %v, %+v", text, e, x.State())
		}
	}
}

// P11.2: a jump, a zero and an abort to whatever place; no instruction is behind the last one.
func TestJumps(t *testing.T) {
	for _, n := range []uint64{0, 1, 2, 3, 4, 255, 256, 1 << 31, 1 << 32, 1<<63 - 1, 1 << 63, 1<<63 + 1, top} {
		at := math.MaxInt
		if n < 1<<63 {
			at = int(n)
		}
		text := strconv.FormatUint(n, 10)
		for _, line := range []string{"jump " + text, "zero 3 " + text, "zero 2 " + text, "abort " + text} {
			p := prog("const 2 1 | begin | " + line)
			s := api.Thread{Status: api.Running, At: 2, Regs: regs(7, 7, 1, 0)}
			goes(t, s, p, at, line)
			s.Inside, s.Start, s.Saved, s.Attempt.Phase = true, 1, regs(1, 2, 3), api.PhaseIdle
			goes(t, s, p, at, line)
		}
	}
	ends(t, "const 0 3", []api.Event{failed(api.ErrPlace)}, broken(api.ErrPlace, 1, 3))
	ends(t, "const 0 3 | begin | const 0 4", []api.Event{begun, failed(api.ErrPlace)}, broken(api.ErrPlace, 1, 3))
	ends(t, "begin | abort 2", []api.Event{begun, {Kind: api.Aborted}, failed(api.ErrPlace)}, broken(api.ErrPlace, 2))
	ends(t, "begin | end", []api.Event{begun, committed(0), failed(api.ErrPlace)}, broken(api.ErrPlace, 2))
	ends(t, "begin | jump 18446744073709551615", []api.Event{begun, failed(api.ErrPlace)}, broken(api.ErrPlace, 0))
	ends(t, "jump 18446744073709551615", []api.Event{failed(api.ErrPlace)}, broken(api.ErrPlace, math.MaxInt))
}

// goes asks where a line leads to that is at the place 2.
func goes(t *testing.T, s api.Thread, p []api.Instr, at int, line string) {
	t.Helper()
	row, clock := rowOf(t, 5), seq.New()
	x, err := From(s, p, row, clock)
	if err != api.OK {
		t.Fatal(err)
	}
	want, event := s, api.Event{}
	switch {
	case p[2].Op == api.OpAbort && !s.Inside:
		want, event = broken(api.ErrPlace, 2, 7, 7, 1), failed(api.ErrPlace)
	case p[2].Op == api.OpAbort:
		want, event = api.Thread{Status: api.Running, At: at, Regs: s.Saved}, api.Event{Kind: api.Aborted}
	case p[2].A == 2:
		want.At = 3
	default:
		want.At = at
	}
	if want.Inside {
		want.Fuel = 1
	}
	if e := step(t, x); e != event || !sameState(x.State(), want) || clock.Steps() != 0 || row.Accesses() != 0 {
		t.Errorf("%s: %v, %+v", line, e, x.State())
	}
}

// P11.2: plain loads and stores, of a cell and of none; registers alike and unlike.
func TestPlain(t *testing.T) {
	loaded := func(addr, word uint64) api.Event { return api.Event{Kind: api.Loaded, Addr: addr, Word: word} }
	ends(t, "const 1 2 | load 0 1 | halt", []api.Event{loaded(2, 7), halted}, ended(2, 7, 2))
	ends(t, "const 1 2 | load 1 1 | halt", []api.Event{loaded(2, 7), halted}, ended(2, 0, 7))
	ends(t, "const 1 3 | load 0 1 | halt", []api.Event{failed(api.ErrRange)}, broken(api.ErrRange, 1, 0, 3))
	ends(t, "const 1 18446744073709551615 | load 1 1 | halt", []api.Event{failed(api.ErrRange)}, broken(api.ErrRange, 1, 0, top))
	ends(t, "const 1 3 | store 0 1 | halt", []api.Event{failed(api.ErrRange)}, broken(api.ErrRange, 1, 0, 3))
	ends(t, "const 1 2 | const 0 9 | store 0 1 | load 3 1 | store 1 1 | load 4 1 | halt",
		[]api.Event{{Kind: api.Stored, Addr: 2, Word: 9}, loaded(2, 9), {Kind: api.Stored, Addr: 2, Word: 2}, loaded(2, 2), halted}, ended(6, 9, 2, 0, 9, 2))
	row, clock := rowOf(t, 5, 6), seq.From(7)
	x := made(t, prog("const 0 8 | store 0 1 | store 0 0"), row, clock)
	if steps(t, x, 3); !slices.Equal(row.Words(), []uint64{8, 6}) || clock.Steps() != 0 || clockWord(clock) != 7 {
		t.Errorf("the cells are %v", row.Words())
	}
}

// P11.2: begin at an odd clock waits outside, at the begin; at an even one it is the snapshot.
func TestBegin(t *testing.T) {
	row, clock := rowOf(t, 5), seq.New()
	x := made(t, prog("const 3 4 | begin | get 0 0 | end | halt"), row, clock)
	step(t, x)
	clock.Take(0)
	wait := api.Thread{Status: api.Running, At: 1, Regs: regs(0, 0, 0, 4)}
	for range 3 {
		if e := step(t, x); e.Kind != 0 || !sameState(x.State(), wait) {
			t.Errorf("%v, %+v", e, x.State())
		}
	}
	clock.Leave(0)
	in := api.Thread{Status: api.Running, At: 2, Regs: wait.Regs, Inside: true, Start: 1, Saved: wait.Regs, Attempt: api.Attempt{Snapshot: 2, Phase: api.PhaseIdle}}
	if e := step(t, x); e != (api.Event{Kind: api.Begin, Word: 2}) || !sameState(x.State(), in) {
		t.Errorf("%v, %+v", e, x.State())
	}
	far := seq.From(top - 1)
	y := made(t, prog("begin | put 0 0 | end | halt"), row, far)
	want := []api.Event{{Kind: api.Begin, Word: top - 1}, wrote(0, 0), {Kind: api.Locked}, committed(0), halted}
	if l := steps(t, y, 6); !slices.Equal(l, want) || clockWord(far) != 0 {
		t.Errorf("%v", l)
	}
}

// P11.2: gets of the cells and of own words, puts, ends of blocks that read alone and that write, aborts.
func TestBlocks(t *testing.T) {
	own := func(addr, word uint64) api.Event { return api.Event{Kind: api.Read, Addr: addr, Word: word, Own: true} }
	locked := api.Event{Kind: api.Locked}
	ends(t, "begin | end | halt", []api.Event{begun, committed(0), halted}, ended(2))
	ends(t, "const 1 2 | begin | get 1 1 | get 0 0 | end | halt", []api.Event{begun, read(2, 7), read(0, 5), committed(0), halted}, ended(5, 5, 7))
	ends(t, "const 1 2 | begin | put 1 0 | get 2 0 | put 0 0 | get 1 0 | get 3 1 | end | halt",
		[]api.Event{begun, wrote(0, 2), own(0, 2), wrote(0, 0), own(0, 0), own(0, 0), locked, committed(1), halted}, ended(8, 0, 0, 2))
	ends(t, "const 1 2 | begin | const 0 9 | put 0 1 | get 3 1 | abort 6 | halt",
		[]api.Event{begun, wrote(2, 9), own(2, 9), {Kind: api.Aborted}, halted}, ended(6, 0, 2))
	row, clock := rowOf(t, 5, 6, 7), seq.From(4)
	x := made(t, prog("const 1 2 | begin | put 1 1 | put 1 0 | abort 6 | halt | begin | put 1 1 | put 1 0 | end | begin | get 0 1 | end | halt"), row, clock)
	if steps(t, x, 6); !slices.Equal(row.Words(), []uint64{5, 6, 7}) || clockWord(clock) != 4 {
		t.Errorf("an abort has changed %v", row.Words())
	}
	if l := steps(t, x, 3); !slices.Equal(l, []api.Event{wrote(2, 2), wrote(0, 2), locked}) || !x.Locked() {
		t.Error(l)
	}
	if steps(t, x, 1); !slices.Equal(row.Words(), []uint64{5, 6, 2}) {
		t.Error(row.Words())
	}
	if steps(t, x, 1); !slices.Equal(row.Words(), []uint64{2, 6, 2}) || clockWord(clock) != 5 || !x.Locked() {
		t.Error(row.Words())
	}
	if l := steps(t, x, 5); !slices.Equal(l, []api.Event{committed(3), {Kind: api.Begin, Word: 6}, read(2, 2), committed(3)}) || x.Locked() {
		t.Error(l)
	}
}

// P11.2: an instruction of a block that is refused breaks the thread at its begin, with the registers ahead of it.
func TestBlockErrors(t *testing.T) {
	ends(t, "const 1 3 | begin | const 0 1 | get 0 1 | end", []api.Event{begun, failed(api.ErrRange)}, broken(api.ErrRange, 1, 0, 3))
	ends(t, "const 1 3 | begin | const 0 1 | put 0 1 | end", []api.Event{begun, failed(api.ErrRange)}, broken(api.ErrRange, 1, 0, 3))
	ends(t, "const 1 3 | begin | const 1 2 | put 0 1 | const 1 18446744073709551615 | get 0 1", []api.Event{begun, wrote(2, 0), failed(api.ErrRange)}, broken(api.ErrRange, 1, 0, 3))
	many := []api.Event{begun}
	for range 1024 {
		many = append(many, read(2, 7))
	}
	ends(t, "const 1 2 | begin | get 2 1 | jump 2", append(many, failed(api.ErrFull)), broken(api.ErrFull, 1, 0, 2))
	many = []api.Event{begun}
	row := rowOf(t, make([]uint64, 1030)...)
	x := made(t, prog("const 1 1 | begin | put 1 0 | add 0 0 1 | jump 2"), row, seq.New())
	for n := range uint64(1024) {
		many = append(many, wrote(n, 1))
	}
	if l := steps(t, x, 3*1024+3); !slices.Equal(l, append(many, failed(api.ErrFull))) || !sameState(x.State(), broken(api.ErrFull, 1, 0, 1)) {
		t.Errorf("%d events, %+v", len(l), x.State())
	}
	if row.Accesses() != 0 {
		t.Error("puts are no accesses")
	}
}

// P11.2: MaxFuel instructions of an attempt go, its end among them, its begin not; each counts once. One more is ErrFuel, unless it is misplaced.
func TestFuel(t *testing.T) {
	loop := func(first, last string) string {
		// 3 * 1365 instructions but the last, which may be another one.
		return "const 1 1 | const 0 1365 | begin | " + first + " | sub 0 0 1 | zero 0 7 | jump 4 | " + last
	}
	ends(t, loop("get 2 1", "end | halt"), []api.Event{begun, read(1, 6), committed(0), halted}, ended(8, 0, 1, 6))
	ends(t, loop("get 2 1", "move 2 2 | end | halt"), []api.Event{begun, read(1, 6), failed(api.ErrFuel)}, broken(api.ErrFuel, 2, 1365, 1))
	ends(t, loop("get 2 1", "get 2 1 | end | halt"), []api.Event{begun, read(1, 6), read(1, 6), failed(api.ErrFuel)}, broken(api.ErrFuel, 2, 1365, 1))
	ends(t, loop("put 2 1", "abort 8 | halt"), []api.Event{begun, wrote(1, 0), {Kind: api.Aborted}, halted}, ended(8, 1365, 1))
	ends(t, loop("put 2 1", "end | halt"), []api.Event{begun, wrote(1, 0), {Kind: api.Locked}, committed(1), halted}, ended(8, 0, 1))
	ends(t, loop("move 2 2", "move 2 2 | abort 9 | halt"), []api.Event{begun, failed(api.ErrFuel)}, broken(api.ErrFuel, 2, 1365, 1))
	ends(t, loop("move 2 2", "const 2 9 | get 2 2 | end"), []api.Event{begun, failed(api.ErrFuel)}, broken(api.ErrFuel, 2, 1365, 1))
	ends(t, loop("move 2 2", "const 2 9 | halt"), []api.Event{begun, failed(api.ErrPlace)}, broken(api.ErrPlace, 2, 1365, 1))
	ends(t, loop("move 2 2", "const 2 9"), []api.Event{begun, failed(api.ErrPlace)}, broken(api.ErrPlace, 2, 1365, 1))
	x := made(t, prog("begin | jump 1"), rowOf(t, 1), seq.New())
	if l := steps(t, x, 4097); !slices.Equal(l, []api.Event{begun}) || x.State().Fuel != 4096 {
		t.Errorf("%v, %d", l, x.State().Fuel)
	}
	if l := steps(t, x, 1); !slices.Equal(l, []api.Event{failed(api.ErrFuel)}) {
		t.Error(l)
	}
}

// P11.2: an attempt that is stale begins anew, at its begin and with the registers that stood there; by a get, and by an end.
func TestStale(t *testing.T) {
	for _, text := range []string{"const 1 1 | begin | get 0 1 | add 2 0 1 | get 3 2 | end | halt", "const 1 1 | begin | get 0 1 | add 2 0 1 | put 2 1 | end | halt"} {
		row, clock := rowOf(t, 5, 6, 7, 8, 9, 10, 11, 12, 13), seq.New()
		x := made(t, prog(text), row, clock)
		steps(t, x, 5)
		clock.Take(0)
		row.Store(1, 0)
		clock.Leave(0)
		var l []api.Event
		for n := 0; n < 20 && !slices.Contains(l, api.Event{Kind: api.Stale}); n++ {
			l = append(l, steps(t, x, 1)...)
		}
		if want := (api.Thread{Status: api.Running, At: 1, Regs: regs(0, 1)}); !sameState(x.State(), want) || len(l) == 0 {
			t.Errorf("%v, %+v", l, x.State())
		}
		l = steps(t, x, 20)
		if len(l) < 2 || l[0] != (api.Event{Kind: api.Begin, Word: 2}) || l[1] != read(1, 0) || x.Status() != api.Ended {
			t.Errorf("%v, %+v", l, x.State())
		}
	}
}

// P11.2: a validation that goes well tells Moved, and leads on to what was under way.
func TestMoved(t *testing.T) {
	row, clock := rowOf(t, 5, 6, 7), seq.New()
	x := made(t, prog("begin | get 0 1 | put 0 2 | end | halt"), row, clock)
	steps(t, x, 2)
	clock.Take(0)
	if l := steps(t, x, 4); l != nil || x.State().Attempt.Phase != api.PhaseWait {
		t.Errorf("%v, %+v", l, x.State())
	}
	clock.Leave(0)
	want := []api.Event{{Kind: api.Moved, Word: 2}, read(0, 5), wrote(0, 5)}
	if l := steps(t, x, 5); !slices.Equal(l, want) {
		t.Error(l)
	}
	clock.Take(2)
	clock.Leave(2)
	want = []api.Event{{Kind: api.Moved, Word: 4}, {Kind: api.Locked}, committed(3), halted}
	if l := steps(t, x, 8); !slices.Equal(l, want) {
		t.Error(l)
	}
}

// P11.2: what From may lay down, though no run comes to it: an attempt whose cells the row does not have.
func TestStrange(t *testing.T) {
	p := prog("begin | get 2 1 | end | halt")
	gone := []api.Cell{{Addr: 9, Word: 4}}
	s := api.Thread{Status: api.Running, Regs: regs(3, 1), Inside: true, Saved: regs(8, 8), Fuel: 4096}
	rows := []struct {
		at   int
		a    api.Attempt
		want []api.Event
		left api.Thread
	}{
		{1, api.Attempt{Phase: api.PhaseLoad, Addr: 9}, []api.Event{failed(api.ErrRange)}, broken(api.ErrRange, 0, 8, 8)},
		{1, api.Attempt{Phase: api.PhaseLook, Addr: 9, Word: 4}, []api.Event{read(9, 4), failed(api.ErrFuel)}, broken(api.ErrFuel, 0, 8, 8)},
		{1, api.Attempt{Phase: api.PhaseCheck, Then: api.PhaseLoad, Addr: 1, Reads: gone}, []api.Event{{Kind: api.Stale}, begun}, api.Thread{}},
		{2, api.Attempt{Phase: api.PhaseLock, Writes: gone}, []api.Event{{Kind: api.Locked}, committed(1), halted}, ended(3, 3, 1)},
		{2, api.Attempt{Phase: api.PhaseFree, Writes: gone, Snapshot: 8}, []api.Event{committed(5), halted}, ended(3, 3, 1)},
	}
	for _, r := range rows {
		s.At, s.Attempt = r.at, r.a
		row, clock := rowOf(t, 5, 6), seq.New()
		x, err := From(s, p, row, clock)
		if err != api.OK {
			t.Fatal(err)
		}
		var l []api.Event
		for n := 0; n < 9 && len(l) < len(r.want); n++ {
			l = append(l, steps(t, x, 1)...)
		}
		if !slices.Equal(l, r.want) || r.left.Status != 0 && !sameState(x.State(), r.left) || !slices.Equal(row.Words(), []uint64{5, 6}) {
			t.Errorf("%+v: %v, %+v", r.a, l, x.State())
		}
	}
	s = api.Thread{Status: api.Running, Inside: true, At: math.MaxInt, Regs: regs(1), Saved: regs(2), Attempt: api.Attempt{Phase: api.PhaseIdle}}
	x, _ := From(s, p, rowOf(t, 5), seq.New())
	if e := step(t, x); e != failed(api.ErrPlace) || !sameState(x.State(), broken(api.ErrPlace, 0, 2)) {
		t.Errorf("%v, %+v", e, x.State())
	}
}
