package thread

import (
	"slices"
	"testing"

	"parley/api"
	"parley/cells"
	"parley/seq"
)

// pair is a thread and its model, over what they share.
type pair struct {
	x    *Thread
	m    *model
	next func() api.Event
	p    []api.Instr
}

// round is threads over one row and clock, and their models over a world.
type round struct {
	t     *testing.T
	row   *cells.Row
	clock *seq.Clock
	w     *world
	pairs []pair
	told  []api.Event
}

func (r *round) add(p []api.Instr) func() {
	m, next, stop := modelOf(r.w, p)
	r.pairs = append(r.pairs, pair{made(r.t, p, r.row, r.clock), m, next, p})
	return stop
}

// accesses is how many there were of both.
func (r *round) accesses() int { return int(r.row.Accesses()) + r.clock.Steps() }

// step does a step of a thread, of another one that From lays down at its state, of a copy, and of the model: all do the same.
func (r *round) step(n int) {
	r.t.Helper()
	q := r.pairs[n]
	from, copied := r.twins(q)
	before, used := r.accesses(), r.w.used
	e, want := step(r.t, q.x), q.next()
	r.told = append(r.told, e)
	if e != want || !sameState(q.x.State(), q.m.s) || q.x.Status() != q.m.s.Status {
		r.t.Fatalf("%v at %+v instead of %v at %+v", e, q.x.State(), want, q.m.s)
	}
	if d := r.accesses() - before; d > 1 || d != r.w.used-used {
		r.t.Fatalf("%v makes %d accesses", e, d)
	}
	if !slices.Equal(r.row.Words(), r.w.cells) || clockWord(r.clock) != r.w.clock {
		r.t.Fatalf("%v leaves %v, %d instead of %v, %d", e, r.row.Words(), clockWord(r.clock), r.w.cells, r.w.clock)
	}
	phase := q.m.s.Attempt.Phase
	if q.x.Locked() != (phase == api.PhaseStore || phase == api.PhaseFree) {
		r.t.Fatalf("Locked in the phase %v", phase)
	}
	for _, y := range []*Thread{from, copied} {
		if again := step(r.t, y); again != e || !sameState(y.State(), q.x.State()) {
			r.t.Fatalf("%v at %+v instead of %v at %+v", again, y.State(), e, q.x.State())
		}
		if !slices.Equal(y.row.Words(), r.w.cells) || clockWord(y.clock) != r.w.clock {
			r.t.Fatalf("a twin leaves %v, %d", y.row.Words(), clockWord(y.clock))
		}
	}
}

// twins are threads that stand where a thread does, over rows and clocks of their own.
func (r *round) twins(q pair) (*Thread, *Thread) {
	r.t.Helper()
	from, err := From(q.x.State(), q.p, r.row.Copy(), r.clock.Copy())
	copied := q.x.Copy(r.row.Copy(), r.clock.Copy())
	if err != api.OK || copied == nil || !sameState(from.State(), q.x.State()) || !sameState(copied.State(), q.x.State()) {
		r.t.Fatalf("From of State %+v: %v", q.x.State(), err)
	}
	return from, copied
}

// others do what another one may do to cells and clock: a whole block, a plain store, to hold the clock, to leave it.
func (r *round) others(d *drawn) {
	switch d.below(7) {
	case 0, 1:
		if ok, _ := r.clock.Take(r.w.clock); ok {
			r.clock.Leave(r.w.clock)
			r.w.clock += 2
		}
		fallthrough
	case 2:
		addr, word := uint64(d.below(len(r.w.cells))), d.word()
		r.w.cells[addr] = word
		r.row.Store(addr, word)
	case 3, 4:
		if ok, _ := r.clock.Take(r.w.clock); ok {
			r.w.clock++
		}
	default:
		// Only where no thread holds it: its holder leaves it itself.
		for _, q := range r.pairs {
			if q.x.Locked() {
				return
			}
		}
		if r.clock.Leave(r.w.clock-1) == api.OK {
			r.w.clock++
		}
	}
}

// newRound is a round over drawn cells and a clock that is open.
func newRound(t *testing.T, d *drawn) *round {
	w := &world{clock: []uint64{0, 2, 1 << 40, top - 1}[d.below(4)]}
	for range 1 + d.below(4) {
		w.cells = append(w.cells, d.word())
	}
	return &round{t: t, row: rowOf(t, w.cells...), clock: seq.From(w.clock), w: w}
}

// P11.2, P11.3, P11.4: threads of drawn programs, some of them misplaced somewhere, by drawn picks, and others between, held against the model at each step; From of State and Copy go on as the thread does, with one access a step at most.
func TestAgainstModel(t *testing.T) {
	d := drawn(11)
	seen := map[api.EventKind]int{}
	errs := map[api.Errno]int{}
	for n := range 1500 {
		r := newRound(t, &d)
		for range 1 + d.below(3) {
			p := d.wild(1 + d.below(20))
			if n%3 > 0 {
				p = d.blocks(1 + d.below(4))
			}
			defer r.add(p)()
		}
		for range 80 {
			r.step(d.below(len(r.pairs)))
			if n%2 == 0 && d.below(6) == 0 {
				r.others(&d)
			}
		}
		for _, e := range r.told {
			seen[e.Kind]++
			errs[e.Err]++
		}
	}
	for kind := api.Begin; kind <= api.Halted; kind++ {
		if seen[kind] < 50 {
			t.Errorf("only %d events of the kind %d", seen[kind], kind)
		}
	}
	if errs[api.ErrPlace] < 50 || errs[api.ErrRange] < 50 {
		t.Error(errs)
	}
}

// P11.4: alone, from an open clock, a thread is never stale and never waits, and a block takes just as many steps as are said.
func TestAlone(t *testing.T) {
	d := drawn(12)
	counts := map[api.EventKind]int{}
	for n := range 800 {
		r := newRound(t, &d)
		p := d.wild(1 + d.below(12))
		if n%4 > 0 {
			p = d.blocks(1 + d.below(4))
		}
		defer r.add(p)()
		q := r.pairs[0]
		var from, did, gets int
		var addrs []uint64
		inside := false
		for at := range 150 {
			ahead := q.m.did
			r.step(0)
			e := r.told[at]
			switch e.Kind {
			case api.Begin:
				from, did, gets, addrs, inside = at, ahead, 0, nil, true
			case api.Read:
				if !e.Own {
					gets++
				}
			case api.Write:
				if !slices.Contains(addrs, e.Addr) {
					addrs = append(addrs, e.Addr)
				}
			case api.Stale, api.Moved:
				t.Fatalf("%v of %v, alone", e, p)
			case api.Committed, api.Aborted, api.Failed:
				if !inside {
					continue
				}
				inside = false
				want := q.m.did - did + gets
				if e.Kind == api.Committed && len(addrs) > 0 {
					want += len(addrs) + 1
				}
				if at-from+1 != want {
					t.Fatalf("a block of %v takes %d steps instead of %d", p, at-from+1, want)
				}
				counts[e.Kind]++
			}
		}
	}
	if counts[api.Committed] < 100 || counts[api.Aborted] < 20 || counts[api.Failed] < 20 {
		t.Error(counts)
	}
}

// P11.4: the steps of some blocks, counted by hand: begin, each get twice, an own one once, each put, end, a store for each address, the clock.
func TestSteps(t *testing.T) {
	rows := []struct {
		text  string
		steps int
	}{
		{"begin | end", 2},
		{"begin | get 0 0 | get 0 1 | end", 6},
		{"begin | const 0 1 | get 1 0 | get 1 0 | end", 7},
		{"begin | put 0 0 | end", 5},
		{"begin | put 0 0 | put 1 0 | end", 6},
		{"begin | get 2 0 | put 0 0 | get 2 0 | const 1 1 | put 0 1 | end", 11},
		{"begin | get 2 0 | put 0 0 | abort 0", 5},
		{"begin | get 2 0 | const 1 9 | put 0 1", 5},
		{"begin | get 2 0 | halt", 4},
	}
	for _, r := range rows {
		x := made(t, prog(r.text), rowOf(t, 0, 6, 7), seq.New())
		n := 1
		step(t, x)
		for ; x.State().Inside; n++ {
			step(t, x)
		}
		if n != r.steps {
			t.Errorf("%s takes %d steps", r.text, n)
		}
	}
}

// P11.3: of a thread that is not there.
func TestTellsNothing(t *testing.T) {
	row, clock := rowOf(t, 1), seq.New()
	for _, x := range []*Thread{nil, {}} {
		if x.Status() != 0 || x.Locked() || !sameState(x.State(), api.Thread{}) || x.Copy(row, clock) != nil {
			t.Errorf("%v tells something", x)
		}
	}
}

// P11.3: Copy over a row or a clock that is not there; and copies that go on apart, inside and outside, of the thread and of one another.
func TestCopy(t *testing.T) {
	row, clock := rowOf(t, 5, 6), seq.New()
	x := made(t, prog("const 1 1 | begin | get 0 1 | put 0 2 | end | begin | get 3 2 | end | halt"), row, clock)
	for range 12 {
		if x.Copy(nil, clock) != nil || x.Copy(row, nil) != nil || x.Copy(&cells.Row{}, clock) != nil || x.Copy(row, &seq.Clock{}) != nil {
			t.Fatal("a copy over nothing")
		}
		state := x.State()
		otherRow, otherClock := row.Copy(), clock.Copy()
		c := x.Copy(otherRow, otherClock)
		d := c.Copy(row.Copy(), clock.Copy())
		words, time := row.Words(), clockWord(clock)
		if steps(t, c, 20); c.Status() != api.Ended || !slices.Equal(otherRow.Words(), []uint64{6, 6}) || clockWord(otherClock) != 2 {
			t.Fatalf("%+v", c.State())
		}
		if !sameState(x.State(), state) || !sameState(d.State(), state) || !slices.Equal(row.Words(), words) || clockWord(clock) != time {
			t.Fatalf("%+v has changed into %+v", state, x.State())
		}
		ended := c.State()
		if step(t, x); !sameState(c.State(), ended) || !sameState(d.State(), state) {
			t.Fatal("a copy goes along")
		}
		if steps(t, d, 20); d.Status() != api.Ended {
			t.Fatalf("%+v", d.State())
		}
	}
	if x.Status() != api.Ended && x.Status() != api.Running {
		t.Errorf("%+v", x.State())
	}
}

// P11.3: a copy may go over a smaller row, which it finds out when it comes to the cell.
func TestCopyElsewhere(t *testing.T) {
	x := made(t, prog("const 1 1 | begin | get 0 1 | get 2 1 | end | halt"), rowOf(t, 5, 6), seq.New())
	steps(t, x, 4)
	c := x.Copy(rowOf(t, 5), seq.From(8))
	want := []api.Event{failed(api.ErrRange)}
	if l := steps(t, c, 8); !slices.Equal(l, want) || !sameState(c.State(), broken(api.ErrRange, 1, 0, 1)) {
		t.Errorf("%v, %+v", l, c.State())
	}
	if l := steps(t, x, 4); !slices.Equal(l, []api.Event{read(1, 6), committed(0), halted}) {
		t.Error(l)
	}
}

// P11.3: what State answers is new memory, spare room included.
func TestStateMemory(t *testing.T) {
	x := made(t, prog("const 1 1 | begin | get 0 1 | put 0 3 | get 2 1 | put 1 1 | end | halt"), rowOf(t, 5, 6), seq.New())
	steps(t, x, 8)
	held, s := x.State(), x.State()
	for _, l := range [][]api.Cell{s.Attempt.Reads, s.Attempt.Writes} {
		if len(l) == 0 {
			t.Fatalf("%+v", s)
		}
		l = l[:cap(l)]
		for n := range l {
			l[n] = api.Cell{Addr: 99, Word: 99}
		}
	}
	if !sameState(x.State(), held) {
		t.Errorf("%+v", x.State())
	}
	if steps(t, x, 8); x.Status() != api.Ended {
		t.Errorf("%+v", x.State())
	}
}
