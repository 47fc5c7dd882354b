package sched

import (
	"math"
	"reflect"
	"slices"
	"strings"
	"testing"

	"parley/api"
	"parley/cells"
	"parley/check"
	"parley/code"
	"parley/seq"
	"parley/thread"
)

const top = math.MaxUint64

// prog reads a program, its instructions parted by '|'.
func prog(text string) []api.Instr {
	var p []api.Instr
	for line := range strings.SplitSeq(text, "|") {
		i, err := code.Parse(strings.TrimSpace(line))
		if err != api.OK {
			panic("no instruction: " + line)
		}
		p = append(p, i)
	}
	return p
}

// adds is the chapter's program: it adds 1 to the cell 0.
const adds = "begin | get 0 1 | const 2 1 | add 0 0 2 | put 0 1 | end | halt"

// script is a script of so many cells, with these programs and no picks.
func script(cells int, first []uint64, programs ...string) api.Script {
	s := api.Script{Cells: cells, First: first}
	for _, text := range programs {
		s.Programs = append(s.Programs, prog(text))
	}
	return s
}

// chapters is the script S of the chapter's examples.
func chapters() api.Script { return script(2, []uint64{5}, adds, adds) }

// byHand is a run whose threads are stepped one by one over a row and a clock that are laid out beside it: what a run is to be held against.
type byHand struct {
	row     *cells.Row
	clock   *seq.Clock
	threads []*thread.Thread
	events  []api.Event
	steps   int
}

func handOf(s api.Script) *byHand {
	words := make([]uint64, s.Cells)
	for n, w := range s.First {
		words[n] = w
	}
	h := &byHand{clock: seq.From(0)}
	h.row, _ = cells.Of(words...)
	for _, p := range s.Programs {
		t, err := thread.New(p, h.row, h.clock)
		if err != api.OK {
			panic(err)
		}
		h.threads = append(h.threads, t)
	}
	return h
}

// pick does a pick; the events that took place in it.
func (h *byHand) pick(n uint32) []api.Event {
	at := int(uint64(n) % uint64(len(h.threads)))
	h.steps++
	e, ok, err := h.threads[at].Step()
	if err != api.OK {
		panic(err)
	}
	if !ok {
		return nil
	}
	e.Thread = at
	h.events = append(h.events, e)
	return []api.Event{e}
}

// runs tells whether a thread goes on.
func (h *byHand) runs(n int) bool { return h.threads[n].Status() == api.Running }

// resting tells whether no thread goes on.
func (h *byHand) resting() bool {
	going := 0
	for n := range h.threads {
		if h.runs(n) {
			going++
		}
	}
	return going == 0
}

func (h *byHand) outcome() api.Outcome {
	o := api.Outcome{Events: h.events, Cells: h.row.Words(), Steps: h.steps}
	o.Clock, _ = h.clock.Copy().Load()
	for _, t := range h.threads {
		o.Threads = append(o.Threads, t.State())
	}
	return o
}

// sameThread holds two states against each other, no list and an empty one being the same.
func sameThread(a, b api.Thread) bool {
	if !slices.Equal(a.Attempt.Reads, b.Attempt.Reads) || !slices.Equal(a.Attempt.Writes, b.Attempt.Writes) {
		return false
	}
	a.Attempt.Reads, a.Attempt.Writes, b.Attempt.Reads, b.Attempt.Writes = nil, nil, nil, nil
	return reflect.DeepEqual(a, b)
}

func sameOutcome(a, b api.Outcome) bool {
	return slices.Equal(a.Events, b.Events) && slices.Equal(a.Cells, b.Cells) && a.Clock == b.Clock && a.Steps == b.Steps &&
		slices.EqualFunc(a.Threads, b.Threads, sameThread)
}

// kept is an outcome of its own memory.
func kept(o api.Outcome) api.Outcome {
	o.Events, o.Cells, o.Threads = slices.Clone(o.Events), slices.Clone(o.Cells), slices.Clone(o.Threads)
	for n := range o.Threads {
		a := &o.Threads[n].Attempt
		a.Reads, a.Writes = slices.Clone(a.Reads), slices.Clone(a.Writes)
	}
	return o
}

// spoil overwrites an outcome, spare room included.
func spoil(o api.Outcome) {
	for n := range o.Events[:cap(o.Events)] {
		o.Events[:cap(o.Events)][n] = api.Event{Thread: 77, Kind: 77}
	}
	for n := range o.Cells[:cap(o.Cells)] {
		o.Cells[:cap(o.Cells)][n] = 77
	}
	for n := range o.Threads {
		spoilCells(o.Threads[n].Attempt.Reads)
		spoilCells(o.Threads[n].Attempt.Writes)
	}
	for n := range o.Threads[:cap(o.Threads)] {
		o.Threads[:cap(o.Threads)][n] = api.Thread{Status: 77, At: 77}
	}
}

func spoilCells(l []api.Cell) {
	for n := range l[:cap(l)] {
		l[:cap(l)][n] = api.Cell{Addr: 77, Word: 77}
	}
}

// made is a run of a script that is not refused.
func made(t *testing.T, s api.Script) *Sched {
	t.Helper()
	d, err := New(s)
	if d == nil || err != api.OK {
		t.Fatalf("New answers %v, %v", d, err)
	}
	return d
}

// stands asks where a run stands.
func stands(t *testing.T, d *Sched, h *byHand) {
	t.Helper()
	if got, want := d.Outcome(), h.outcome(); !sameOutcome(got, want) {
		t.Fatalf("it stands at %+v, not %+v", got, want)
	}
	if d.AtRest() != h.resting() {
		t.Fatalf("AtRest answers %t", d.AtRest())
	}
}

// alike asks two runs to stand at one place.
func alike(t *testing.T, a, b *Sched) {
	t.Helper()
	if x, y := a.Outcome(), b.Outcome(); !sameOutcome(x, y) {
		t.Fatalf("one stands at %+v, the other one at %+v", x, y)
	}
}

// picks does picks that are not refused; how many were done.
func picks(t *testing.T, d *Sched, list ...uint32) int {
	t.Helper()
	n, err := d.Picks(list...)
	if err != api.OK {
		t.Fatal(err)
	}
	return n
}

func alone(t *testing.T, d *Sched, at, most int) int {
	t.Helper()
	n, err := d.Alone(at, most)
	if err != api.OK {
		t.Fatal(err)
	}
	return n
}

func turns(t *testing.T, d *Sched, most int) int {
	t.Helper()
	n, err := d.Turns(most)
	if err != api.OK {
		t.Fatal(err)
	}
	return n
}

// kinds are the kinds of a thread's events, in order.
func kinds(l []api.Event, at int) []api.EventKind {
	var k []api.EventKind
	for _, e := range l {
		if e.Thread == at {
			k = append(k, e.Kind)
		}
	}
	return k
}

// drawn is a source of numbers that is the same at each run.
type drawn uint64

func (d *drawn) next() uint64 {
	*d = *d*6364136223846793005 + 1442695040888963407
	return uint64(*d >> 33)
}

func (d *drawn) below(n int) int { return int(d.next() % uint64(n)) }

// list is so many picks, most of them near to 0.
func (d *drawn) list(n int) []uint32 {
	l := make([]uint32, n)
	for at := range l {
		if l[at] = uint32(d.below(8)); d.below(5) == 0 {
			l[at] = math.MaxUint32 - l[at]
		}
	}
	return l
}

// instr is an instruction of such an operation, whose registers are mostly the first ones.
func (d *drawn) instr(op api.Op, target int) api.Instr {
	form, _ := code.Info(op)
	i := api.Instr{Op: op}
	for n, r := range []*int{&i.A, &i.B, &i.C} {
		if n < form.Regs {
			*r = d.below(3)
		}
	}
	if form.Target {
		i.N = uint64(target)
	} else if form.Num {
		i.N = uint64(d.below(3))
		if d.below(30) == 0 {
			i.N = top
		}
	}
	return i
}

// program is a program that may run: blocks one behind the other, with other instructions between, and where they end now and then back to the beginning. Without plain accesses, if none are asked for.
func (d *drawn) program(blocks int, plain bool) []api.Instr {
	inside := []api.Op{api.OpGet, api.OpGet, api.OpGet, api.OpPut, api.OpPut, api.OpPut, api.OpAdd, api.OpConst, api.OpEqual, api.OpSub, api.OpZero, api.OpLess}
	outside := []api.Op{api.OpConst, api.OpMove, api.OpAdd, api.OpEqual, api.OpZero}
	if plain {
		outside = append(outside, api.OpLoad, api.OpStore)
	}
	var p []api.Instr
	for range blocks {
		for range d.below(3) {
			p = append(p, d.instr(outside[d.below(len(outside))], len(p)+1))
		}
		begin := len(p)
		p = append(p, api.Instr{Op: api.OpBegin})
		for range 1 + d.below(6) {
			p = append(p, d.instr(inside[d.below(len(inside))], len(p)+1))
		}
		if d.below(6) == 0 {
			p = append(p, api.Instr{Op: api.OpZero, A: d.below(3), N: uint64(len(p) + 2)}, api.Instr{Op: api.OpAbort, N: uint64(begin)})
			if d.below(2) == 0 {
				p[len(p)-1].N = uint64(len(p) + 1)
			}
		}
		p = append(p, api.Instr{Op: api.OpEnd})
	}
	if d.below(5) == 0 {
		p = append(p, api.Instr{Op: api.OpJump})
	}
	p = append(p, api.Instr{Op: api.OpHalt})
	if w := check.Program(p); w.Err != api.OK {
		panic(w)
	}
	return p
}

// script is a script of a few cells, of 1 to 8 threads, without picks.
func (d *drawn) script(plain bool) api.Script {
	s := api.Script{Cells: 1 + d.below(4)}
	for range d.below(s.Cells + 1) {
		s.First = append(s.First, uint64(d.below(3)))
	}
	threads := 1 + d.below(3)
	if d.below(4) == 0 {
		threads = 1 + d.below(api.MaxThreads)
	}
	for range threads {
		s.Programs = append(s.Programs, d.program(1+d.below(3), plain))
	}
	return s
}
