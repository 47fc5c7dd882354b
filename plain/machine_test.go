package plain

import (
	"math"
	"reflect"
	"slices"
	"testing"

	"parley/api"
	"parley/check"
)

// P14.2, P14.5: scripts that may not be.
func TestMayNotBe(t *testing.T) {
	fine := func() api.Script { return script(2, []uint64{5}, doubles, "halt") }
	for n, change := range []func(*api.Script){
		func(s *api.Script) { s.Cells = 0 },
		func(s *api.Script) { s.Cells = -1 },
		func(s *api.Script) { s.Cells = math.MinInt },
		func(s *api.Script) { s.Cells = api.MaxCells + 1 },
		func(s *api.Script) { s.Cells = math.MaxInt },
		func(s *api.Script) { s.First = []uint64{1, 2, 3} },
		func(s *api.Script) { s.Programs = nil },
		func(s *api.Script) { s.Programs = [][]api.Instr{} },
		func(s *api.Script) { s.Programs = slices.Repeat(s.Programs[1:], 9) },
		func(s *api.Script) { s.Programs[1] = nil },
		func(s *api.Script) { s.Programs[1] = slices.Repeat(s.Programs[1], 257) },
		func(s *api.Script) { s.Programs[1] = prog("begin | halt") },
		func(s *api.Script) { s.Programs[1] = prog("begin") },
		func(s *api.Script) { s.Programs[0] = prog("get 0 0 | halt") },
		func(s *api.Script) { s.Programs[0] = prog("jump 9 | halt") },
		func(s *api.Script) { s.Programs[0] = []api.Instr{{Op: 99}} },
		func(s *api.Script) { s.Picks = make([]uint32, api.MaxPicks+1) },
	} {
		s := fine()
		change(&s)
		if check.Script(s).Err == api.OK {
			t.Fatal("it may be", n)
		}
		if m, err := New(s); m != nil || err != api.ErrScript {
			t.Errorf("%d: New answers %v, %v", n, m, err)
		}
		if l, w, err := Run(s); l != nil || w != nil || err != api.ErrScript {
			t.Errorf("%d: Run answers %v, %v, %v", n, l, w, err)
		}
	}
	if m, err := New(api.Script{}); m != nil || err != api.ErrScript {
		t.Errorf("New answers %v, %v", m, err)
	}
}

// P14.2: a machine at its beginning, up to the limits; the picks are not done.
func TestAtItsBeginning(t *testing.T) {
	halts := slices.Repeat([]string{"halt"}, 8)
	full := make([]uint64, api.MaxCells)
	full[api.MaxCells-1] = 7
	long := script(1, nil, "halt")
	long.Programs[0] = slices.Repeat(long.Programs[0], 256)
	picked := script(2, []uint64{5, 6}, doubles)
	picked.Picks = []uint32{0, 0, 1}
	for n, s := range []api.Script{script(1, nil, "halt"), script(3, []uint64{}, halts...), script(3, []uint64{4, top, 6}, doubles, doubles), script(api.MaxCells, full, doubles), script(api.MaxCells, nil, "halt"), long, picked} {
		m := made(t, s)
		stands(t, m, modelOf(s))
		for at := range s.Programs {
			if th, err := m.Thread(at); err != api.OK || !reflect.DeepEqual(th, api.Thread{Status: api.Running}) {
				t.Errorf("%d: thread %d stands at %+v, %v", n, at, th, err)
			}
		}
		if m.Commits() != 0 || len(m.Words()) != s.Cells {
			t.Errorf("%d: %d commits, %d cells", n, m.Commits(), len(m.Words()))
		}
	}
}

// P14.3, P14.4: of a nil and of a zero machine nothing is told.
func TestNothingThere(t *testing.T) {
	for _, m := range []*Machine{nil, {}} {
		for _, n := range []int{math.MinInt, -1, 0, 1, 8, math.MaxInt} {
			if l, err := m.Step(n); l != nil || err != api.ErrNil {
				t.Errorf("Step(%d) answers %v, %v", n, l, err)
			}
			if th, err := m.Thread(n); err != api.ErrNil || !reflect.DeepEqual(th, api.Thread{}) {
				t.Errorf("Thread(%d) answers %v, %v", n, th, err)
			}
		}
		for _, list := range [][]uint32{nil, {}, {0}, {1, 2, 3}} {
			if l, err := m.Picks(list...); l != nil || err != api.ErrNil {
				t.Errorf("Picks(%v) answers %v, %v", list, l, err)
			}
		}
		if m.Threads() != 0 || m.Commits() != 0 || len(m.Words()) != 0 || m.Copy() != nil {
			t.Error("a machine that is not there tells something")
		}
	}
}

// P14.3, P14.4: threads that there are not; they change nothing.
func TestNoSuchThread(t *testing.T) {
	for threads := 1; threads <= api.MaxThreads; threads++ {
		s := script(1, []uint64{3}, slices.Repeat([]string{doubles}, threads)...)
		m := made(t, s)
		for _, n := range []int{math.MinInt, -1, threads, threads + 1, 8, 1 << 32, math.MaxInt} {
			if l, err := m.Step(n); l != nil || err != api.ErrArg {
				t.Errorf("Step(%d) of %d answers %v, %v", n, threads, l, err)
			}
			if th, err := m.Thread(n); err != api.ErrArg || !reflect.DeepEqual(th, api.Thread{}) {
				t.Errorf("Thread(%d) of %d answers %v, %v", n, threads, th, err)
			}
		}
		stands(t, m, modelOf(s))
		if l := step(t, m, threads-1); len(l) != 5 {
			t.Errorf("Step of the last one tells %v", l)
		}
	}
}

// event is an event of thread 1.
func event(kind api.EventKind, addr, word uint64) api.Event {
	return api.Event{Thread: 1, Kind: kind, Addr: addr, Word: word}
}

// P14.3: each kind of instruction outside, one a step: its event, and where the thread stands behind it.
func TestOutside(t *testing.T) {
	type at struct {
		events []api.Event
		place  int
		reg    int
		word   uint64
	}
	for _, x := range []struct {
		text  string
		steps []at
	}{
		{"const 2 18446744073709551615 | move 3 2 | halt", []at{{nil, 1, 2, top}, {nil, 2, 3, top}}},
		{"const 1 5 | const 2 7 | add 3 1 2 | sub 3 1 2 | mul 3 1 2 | less 3 1 2 | less 3 2 1 | equal 3 1 1 | equal 3 1 2 | halt",
			[]at{{nil, 1, 1, 5}, {nil, 2, 2, 7}, {nil, 3, 3, 12}, {nil, 4, 3, top - 1}, {nil, 5, 3, 35}, {nil, 6, 3, 1}, {nil, 7, 3, 0}, {nil, 8, 3, 1}, {nil, 9, 3, 0}}},
		{"jump 2 | halt | zero 0 4 | halt | const 0 3 | zero 0 1 | halt", []at{{nil, 2, 0, 0}, {nil, 4, 0, 0}, {nil, 5, 0, 3}, {nil, 6, 0, 3}}},
		{"load 2 0 | const 1 1 | store 2 1 | load 3 1 | halt", []at{
			{[]api.Event{event(api.Loaded, 0, 40)}, 1, 2, 40}, {nil, 2, 1, 1}, {[]api.Event{event(api.Stored, 1, 40)}, 3, 2, 40}, {[]api.Event{event(api.Loaded, 1, 40)}, 4, 3, 40}}},
		{"load 0 0 | jump 2 | jump 0", []at{{[]api.Event{event(api.Loaded, 0, 40)}, 1, 0, 40}, {nil, 2, 0, 40}, {nil, 0, 0, 40}}},
	} {
		m := made(t, script(2, []uint64{40, 50}, "halt", x.text))
		for n, want := range x.steps {
			l := step(t, m, 1)
			th, _ := m.Thread(1)
			if !slices.Equal(l, want.events) || th.At != want.place || th.Regs[want.reg] != want.word || th.Status != api.Running {
				t.Errorf("%s: step %d tells %v, and is at %+v", x.text, n, l, th)
			}
		}
	}
}

// P14.3: a store is in the cells behind its step, and not ahead of it.
func TestPlainStore(t *testing.T) {
	m := made(t, script(2, []uint64{40, 50}, "const 0 1 | store 0 0 | halt"))
	step(t, m, 0)
	if !slices.Equal(m.Words(), []uint64{40, 50}) {
		t.Error(m.Words())
	}
	step(t, m, 0)
	if !slices.Equal(m.Words(), []uint64{40, 1}) || m.Commits() != 0 {
		t.Error(m.Words(), m.Commits())
	}
}

// over asks a thread that is over for its steps: none has an event, or changes anything.
func isOver(t *testing.T, m *Machine, n int, want api.Thread) {
	t.Helper()
	words, commits := m.Words(), m.Commits()
	for range 3 {
		if th, _ := m.Thread(n); !reflect.DeepEqual(th, want) {
			t.Errorf("it stands at %+v, not %+v", th, want)
		}
		if l := append(step(t, m, n), picks(t, m, uint32(n))...); len(l) != 0 {
			t.Errorf("one that is over tells %v", l)
		}
	}
	if !slices.Equal(words, m.Words()) || commits != m.Commits() {
		t.Errorf("%v, %d", m.Words(), m.Commits())
	}
}

// P14.3: a thread that halts stays at the halt; a plain access to no cell breaks it at that instruction.
func TestOver(t *testing.T) {
	m := made(t, script(2, []uint64{40, 50}, "const 0 2 | halt", "const 0 2 | load 1 0 | halt", "const 0 18446744073709551615 | store 1 0 | halt"))
	picks(t, m, 0, 1, 2)
	failed := api.Event{Kind: api.Failed, Err: api.ErrRange}
	if l := step(t, m, 0); !slices.Equal(l, []api.Event{{Kind: api.Halted}}) {
		t.Error(l)
	}
	isOver(t, m, 0, api.Thread{Status: api.Ended, At: 1, Regs: [8]uint64{2}})
	failed.Thread = 1
	if l := step(t, m, 1); !slices.Equal(l, []api.Event{failed}) {
		t.Error(l)
	}
	isOver(t, m, 1, api.Thread{Status: api.Broken, Err: api.ErrRange, At: 1, Regs: [8]uint64{2}})
	failed.Thread = 2
	if l := step(t, m, 2); !slices.Equal(l, []api.Event{failed}) {
		t.Error(l)
	}
	isOver(t, m, 2, api.Thread{Status: api.Broken, Err: api.ErrRange, At: 1, Regs: [8]uint64{top}})
	if !slices.Equal(m.Words(), []uint64{40, 50}) {
		t.Error(m.Words())
	}
}

// P14.3: blocks that commit with and without writes: the numbers of their events go by those that wrote alone.
func TestNumbers(t *testing.T) {
	const writes, reads = "begin | put 0 0 | end | jump 0", "begin | get 0 0 | abort 3 | begin | get 1 1 | end | jump 0"
	m := made(t, script(1, []uint64{9}, writes, "begin | get 0 1 | end | jump 0", "begin | abort 2 | jump 0", reads))
	begin := func(n int, number uint64) api.Event {
		return api.Event{Thread: n, Kind: api.Begin, Word: 2 * number}
	}
	committed := func(n int, number uint64) api.Event {
		return api.Event{Thread: n, Kind: api.Committed, Word: number}
	}
	word := uint64(9)
	for number := range uint64(5) {
		read := api.Event{Thread: 1, Kind: api.Read, Word: word}
		for range 2 {
			if l := step(t, m, 1); !slices.Equal(l, []api.Event{begin(1, number), read, committed(1, number)}) {
				t.Errorf("behind %d: %v", number, l)
			}
			step(t, m, 1)
			if l := step(t, m, 2); !slices.Equal(l, []api.Event{begin(2, number), {Thread: 2, Kind: api.Aborted}}) {
				t.Errorf("behind %d: %v", number, l)
			}
			step(t, m, 2)
			if m.Commits() != number {
				t.Errorf("%d commits, not %d", m.Commits(), number)
			}
		}
		if l := step(t, m, 0); !slices.Equal(l, []api.Event{begin(0, number), {Kind: api.Write}, committed(0, number+1)}) {
			t.Errorf("behind %d: %v", number, l)
		}
		if step(t, m, 0); m.Commits() != number+1 {
			t.Errorf("%d commits, not %d", m.Commits(), number+1)
		}
		word = 0
	}
	// A block that puts back what stood there has written.
	same := made(t, script(1, []uint64{9}, "begin | get 0 1 | put 0 1 | end | halt"))
	if l := step(t, same, 0); same.Commits() != 1 || l[len(l)-1] != committed(0, 1) || same.Words()[0] != 9 {
		t.Errorf("%v, %d", l, same.Commits())
	}
}

// P14.3: blocks that abort and that fail: their events as far as they have come, and where the thread stands.
func TestGivenUp(t *testing.T) {
	read, wrote := event(api.Read, 0, 40), event(api.Write, 0, 1)
	begin, aborted := event(api.Begin, 0, 0), event(api.Aborted, 0, 0)
	failed := func(err api.Errno) api.Event { return api.Event{Thread: 1, Kind: api.Failed, Err: err} }
	ahead := [8]uint64{0: 1, 3: 6}
	for _, x := range []struct {
		block string
		want  []api.Event
		end   api.Thread
	}{
		{"begin | get 2 1 | put 0 1 | abort 6 | halt", []api.Event{begin, read, wrote, aborted}, api.Thread{Status: api.Running, At: 6, Regs: ahead}},
		{"begin | abort 2 | halt", []api.Event{begin, aborted}, api.Thread{Status: api.Running, At: 2, Regs: ahead}},
		{"begin | get 2 1 | put 0 1 | get 0 3 | end | halt", []api.Event{begin, read, wrote, failed(api.ErrRange)}, api.Thread{Status: api.Broken, Err: api.ErrRange, At: 2, Regs: ahead}},
		{"begin | put 0 1 | put 0 3 | end | halt", []api.Event{begin, wrote, failed(api.ErrRange)}, api.Thread{Status: api.Broken, Err: api.ErrRange, At: 2, Regs: ahead}},
		{"begin | const 0 7 | jump 4 | end | halt", []api.Event{begin, failed(api.ErrFuel)}, api.Thread{Status: api.Broken, Err: api.ErrFuel, At: 2, Regs: ahead}},
		{"begin | get 2 1 | jump 3 | end | halt", append(append([]api.Event{begin}, slices.Repeat([]api.Event{read}, 1024)...), failed(api.ErrFull)), api.Thread{Status: api.Broken, Err: api.ErrFull, At: 2, Regs: ahead}},
	} {
		m := made(t, script(2, []uint64{40, 50}, "halt", "const 0 1 | const 3 6 | "+x.block))
		picks(t, m, 1, 1)
		if l := step(t, m, 1); !slices.Equal(l, x.want) {
			t.Errorf("%s: %v", x.block, l)
		}
		if th, _ := m.Thread(1); !reflect.DeepEqual(th, x.end) {
			t.Errorf("%s: it stands at %+v", x.block, th)
		}
		if !slices.Equal(m.Words(), []uint64{40, 50}) || m.Commits() != 0 {
			t.Errorf("%s: %v, %d", x.block, m.Words(), m.Commits())
		}
		if x.end.Status == api.Broken {
			isOver(t, m, 1, x.end)
		}
	}
}

// P14.3: Picks of none, of some, of numbers past the threads.
func TestPicks(t *testing.T) {
	for threads := uint32(1); threads <= api.MaxThreads; threads++ {
		s := script(1, nil, slices.Repeat([]string{"halt"}, int(threads))...)
		for _, n := range []uint32{0, 1, 2, 3, 7, 8, 9, 255, 256, 1 << 31, 1<<31 - 1, 1<<31 + 1, math.MaxUint32 - 1, math.MaxUint32} {
			if l := picks(t, made(t, s), n); !slices.Equal(l, []api.Event{{Thread: int(n % threads), Kind: api.Halted}}) {
				t.Errorf("Picks(%d) of %d threads tells %v", n, threads, l)
			}
		}
	}
	s := script(1, []uint64{1}, doubles, doubles)
	m := made(t, s)
	if l := append(picks(t, m), picks(t, m, []uint32{}...)...); len(l) != 0 {
		t.Errorf("no picks tell %v", l)
	}
	stands(t, m, modelOf(s))
	if l := picks(t, m, 3, 0, 5, 2); len(l) != 12 || m.Words()[0] != 4 {
		t.Errorf("%v, %v", l, m.Words())
	}
}

// P14.3, P14.4, P14.5: drawn scripts and picks against the model, step by step, by Picks and by Run.
func TestMachinesAgainstTheModel(t *testing.T) {
	draw := drawn(3)
	kinds := map[api.EventKind]int{}
	for range 3000 {
		s := draw.script(draw.below(2) == 0)
		list := draw.list(draw.below(60))
		m, all, want := made(t, s), made(t, s), modelOf(s)
		var told []api.Event
		for _, n := range list {
			at := int(uint64(n) % uint64(len(s.Programs)))
			l, w := step(t, m, at), want.step(at)
			if !slices.Equal(l, w) {
				t.Fatalf("%+v: Step(%d) tells %v, not %v", s, at, l, w)
			}
			stands(t, m, want)
			told = append(told, w...)
			for _, e := range w {
				kinds[e.Kind]++
			}
		}
		cut := draw.below(len(list) + 1)
		if l := append(picks(t, all, list[:cut]...), picks(t, all, list[cut:]...)...); !slices.Equal(l, told) {
			t.Fatalf("%+v: Picks tells %v, not %v", s, l, told)
		}
		stands(t, all, want)
		s.Picks = list
		if l, w, err := Run(s); err != api.OK || !slices.Equal(l, told) || !slices.Equal(w, want.words) {
			t.Fatalf("%+v: Run answers %v, %v, %v", s, l, w, err)
		}
	}
	for _, k := range []api.EventKind{api.Begin, api.Read, api.Write, api.Committed, api.Aborted, api.Failed, api.Loaded, api.Stored, api.Halted} {
		if kinds[k] < 200 {
			t.Errorf("events: %v", kinds)
		}
	}
}

// P14.4: a copy and its first go on apart.
func TestCopy(t *testing.T) {
	draw := drawn(4)
	for range 400 {
		s := draw.script(true)
		m, want := made(t, s), modelOf(s)
		ahead := draw.list(draw.below(20))
		run := func(m *Machine, w *model, list []uint32) {
			for _, n := range list {
				picks(t, m, n)
				w.step(int(uint64(n) % uint64(len(s.Programs))))
			}
		}
		run(m, want, ahead)
		c := m.Copy()
		stands(t, c, want)
		other := modelOf(s)
		for _, n := range ahead {
			other.step(int(uint64(n) % uint64(len(s.Programs))))
		}
		for range 4 {
			run(m, want, draw.list(draw.below(8)))
			stands(t, c, other)
			run(c, other, draw.list(draw.below(8)))
			stands(t, m, want)
		}
	}
}

// P14.5: Run without picks, and with as many as may be.
func TestRunAtTheBounds(t *testing.T) {
	s := script(3, []uint64{4, 5}, doubles)
	if l, w, err := Run(s); err != api.OK || len(l) != 0 || !slices.Equal(w, []uint64{4, 5, 0}) {
		t.Errorf("%v, %v, %v", l, w, err)
	}
	many := script(1, nil, "const 2 1 | begin | get 0 1 | add 0 0 2 | put 0 1 | end | jump 1")
	many.Picks = make([]uint32, api.MaxPicks)
	l, w, err := Run(many)
	commits := uint64(api.MaxPicks / 2) // const, then a block and a jump by turns
	if err != api.OK || w[0] != commits || uint64(len(l)) != 4*commits || l[len(l)-1] != (api.Event{Kind: api.Committed, Word: commits}) {
		t.Errorf("%d events, %v, %v", len(l), w, err)
	}
	plainly := script(api.MaxCells, nil, slices.Repeat([]string{"halt"}, 8)...)
	plainly.Picks = slices.Repeat([]uint32{math.MaxUint32}, api.MaxPicks)
	if l, w, err := Run(plainly); err != api.OK || len(l) != 1 || len(w) != api.MaxCells {
		t.Errorf("%v, %d, %v", l, len(w), err)
	}
}
