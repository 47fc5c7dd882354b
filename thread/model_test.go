package thread

import (
	"iter"
	"math"
	"reflect"
	"slices"
	"strings"
	"testing"

	"parley/api"
	"parley/cells"
	"parley/code"
	"parley/seq"
)

const top = math.MaxUint64

// prog reads a program, its instructions parted by '|'.
func prog(text string) []api.Instr {
	var p []api.Instr
	for line := range strings.SplitSeq(text, "|") {
		i, err := code.Parse(strings.TrimSpace(line))
		if err != api.OK {
			panic("no instruction: " + line)
		}
		p = append(p, i)
	}
	return p
}

// world is what threads share.
type world struct {
	cells []uint64
	clock uint64
	used  int
}

// stopped ends a model's run wherever it is.
type stopped struct{}

// model is a thread as 'The machine' tells it: a run in straight code that halts at the end of each step, and is gone on with by the next one.
type model struct {
	*world
	p     []api.Instr
	s     api.Thread
	did   int // how many instructions it was at
	yield func(api.Event) bool
}

// modelOf lays down a model at the beginning of its program, and hands out how it does a step.
func modelOf(w *world, p []api.Instr) (*model, func() api.Event, func()) {
	m := &model{world: w, p: p, s: api.Thread{Status: api.Running}}
	next, stop := iter.Pull(m.run)
	step := func() api.Event {
		e, _ := next()
		return e
	}
	return m, step, stop
}

func (m *model) run(yield func(api.Event) bool) {
	defer func() {
		if r := recover(); r != nil {
			if _, ok := r.(stopped); !ok {
				panic(r)
			}
		}
	}()
	m.yield = yield
	for {
		if m.s.Status != api.Running {
			m.done(api.Event{})
			continue
		}
		m.instruction()
	}
}

// done ends a step.
func (m *model) done(e api.Event) {
	if !m.yield(e) {
		panic(stopped{})
	}
}

// pause ends a step within an instruction, at a phase.
func (m *model) pause(e api.Event, a api.Attempt) {
	a.Snapshot, a.Reads, a.Writes = m.s.Attempt.Snapshot, m.s.Attempt.Reads, m.s.Attempt.Writes
	m.s.Attempt = a
	m.done(e)
}

func (m *model) load(addr uint64) uint64 { m.used++; return m.cells[addr] }
func (m *model) time() uint64            { m.used++; return m.clock }
func (m *model) has(addr uint64) bool    { return addr < uint64(len(m.cells)) }

func (m *model) outside() {
	m.s.Inside, m.s.Start, m.s.Saved, m.s.Fuel, m.s.Attempt = false, 0, [8]uint64{}, 0, api.Attempt{}
}

func (m *model) back() {
	m.s.Regs, m.s.At = m.s.Saved, m.s.Start
	m.outside()
}

func (m *model) broken(err api.Errno) {
	if m.s.Inside {
		m.back()
	}
	m.s.Status, m.s.Err = api.Broken, err
	m.done(api.Event{Kind: api.Failed, Err: err})
}

func (m *model) goTo(n uint64) {
	m.s.At = math.MaxInt
	if n < 1<<63 {
		m.s.At = int(n)
	}
}

// mayStand tells whether an operation may stand where the thread is.
func (m *model) mayStand(op api.Op) bool {
	switch op {
	case api.OpLoad, api.OpStore, api.OpBegin, api.OpHalt:
		return !m.s.Inside
	case api.OpGet, api.OpPut, api.OpEnd, api.OpAbort:
		return m.s.Inside
	}
	return true
}

func (m *model) instruction() {
	m.did++
	if m.s.At >= len(m.p) || !m.mayStand(m.p[m.s.At].Op) {
		m.broken(api.ErrPlace)
		return
	}
	if m.s.Inside {
		if m.s.Fuel == 4096 {
			m.broken(api.ErrFuel)
			return
		}
		m.s.Fuel++
	}
	i, r := m.p[m.s.At], &m.s.Regs
	switch i.Op {
	case api.OpLoad, api.OpStore:
		m.plainly(i)
	case api.OpBegin:
		m.begin()
	case api.OpGet:
		m.get(i.A, r[i.B])
	case api.OpPut:
		m.put(r[i.B], r[i.A])
	case api.OpEnd:
		m.end()
	case api.OpAbort:
		m.back()
		m.goTo(i.N)
		m.done(api.Event{Kind: api.Aborted})
	case api.OpHalt:
		m.s.Status = api.Ended
		m.done(api.Event{Kind: api.Halted})
	case api.OpJump:
		m.goTo(i.N)
		m.done(api.Event{})
	case api.OpZero:
		if m.s.At++; r[i.A] == 0 {
			m.goTo(i.N)
		}
		m.done(api.Event{})
	default:
		r[i.A] = modelReckon(i, r[i.B], r[i.C])
		m.s.At++
		m.done(api.Event{})
	}
}

// modelReckon is the word that an instruction between registers makes.
func modelReckon(i api.Instr, b, c uint64) uint64 {
	switch {
	case i.Op == api.OpConst:
		return i.N
	case i.Op == api.OpMove:
		return b
	case i.Op == api.OpAdd:
		return b + c
	case i.Op == api.OpSub:
		return b - c
	case i.Op == api.OpMul:
		return b * c
	case i.Op == api.OpLess && b < c, i.Op == api.OpEqual && b == c:
		return 1
	}
	return 0
}

func (m *model) plainly(i api.Instr) {
	r := &m.s.Regs
	addr := r[i.B]
	m.used++
	switch {
	case !m.has(addr):
		m.broken(api.ErrRange)
	case i.Op == api.OpLoad:
		r[i.A] = m.cells[addr]
		m.s.At++
		m.done(api.Event{Kind: api.Loaded, Addr: addr, Word: r[i.A]})
	default:
		m.cells[addr] = r[i.A]
		m.s.At++
		m.done(api.Event{Kind: api.Stored, Addr: addr, Word: r[i.A]})
	}
}

func (m *model) begin() {
	c := m.time()
	if c%2 == 1 {
		m.done(api.Event{})
		return
	}
	m.s.Inside, m.s.Start, m.s.Saved = true, m.s.At, m.s.Regs
	m.s.Attempt.Snapshot = c
	m.s.At++
	m.pause(api.Event{Kind: api.Begin, Word: c}, api.Attempt{Phase: api.PhaseIdle})
}

// own is the redo log's entry of an address, or nil.
func (m *model) own(addr uint64) *api.Cell {
	for n, c := range m.s.Attempt.Writes {
		if c.Addr == addr {
			return &m.s.Attempt.Writes[n]
		}
	}
	return nil
}

func (m *model) get(reg int, addr uint64) {
	if c := m.own(addr); c != nil {
		m.s.Regs[reg] = c.Word
		m.s.At++
		m.done(api.Event{Kind: api.Read, Addr: addr, Word: c.Word, Own: true})
		return
	}
	if !m.has(addr) {
		m.broken(api.ErrRange)
		return
	}
	if len(m.s.Attempt.Reads) == 1024 {
		m.broken(api.ErrFull)
		return
	}
	for {
		word := m.load(addr)
		m.pause(api.Event{}, api.Attempt{Phase: api.PhaseLook, Addr: addr, Word: word})
		if m.time() == m.s.Attempt.Snapshot {
			m.s.Attempt.Reads = append(m.s.Attempt.Reads, api.Cell{Addr: addr, Word: word})
			m.s.Regs[reg] = word
			m.s.At++
			m.pause(api.Event{Kind: api.Read, Addr: addr, Word: word}, api.Attempt{Phase: api.PhaseIdle})
			return
		}
		if !m.validate(api.PhaseLoad, addr) {
			return
		}
	}
}

func (m *model) put(addr, word uint64) {
	switch c := m.own(addr); {
	case c != nil:
		c.Word = word
	case !m.has(addr):
		m.broken(api.ErrRange)
		return
	case len(m.s.Attempt.Writes) == 1024:
		m.broken(api.ErrFull)
		return
	default:
		m.s.Attempt.Writes = append(m.s.Attempt.Writes, api.Cell{Addr: addr, Word: word})
	}
	m.s.At++
	m.done(api.Event{Kind: api.Write, Addr: addr, Word: word})
}

func (m *model) end() {
	if len(m.s.Attempt.Writes) == 0 {
		m.committed(m.s.Attempt.Snapshot / 2)
		return
	}
	for m.time() != m.s.Attempt.Snapshot {
		if !m.validate(api.PhaseLock, 0) {
			return
		}
	}
	m.clock++
	m.pause(api.Event{Kind: api.Locked}, api.Attempt{Phase: api.PhaseStore})
	for n, c := range m.s.Attempt.Writes {
		m.used++
		m.cells[c.Addr] = c.Word
		after := api.Attempt{Phase: api.PhaseStore, At: n + 1}
		if n+1 == len(m.s.Attempt.Writes) {
			after = api.Attempt{Phase: api.PhaseFree}
		}
		m.pause(api.Event{}, after)
	}
	m.used++
	m.clock++
	m.committed(m.clock / 2)
}

func (m *model) committed(number uint64) {
	m.s.At++
	m.outside()
	m.done(api.Event{Kind: api.Committed, Word: number})
}

// validate looks at all that was read again; whether it still stands so. It begins at the end of the step in which the clock was found otherwise.
func (m *model) validate(then api.Phase, addr uint64) bool {
	for {
		m.pause(api.Event{}, api.Attempt{Phase: api.PhaseWait, Then: then, Addr: addr})
		found := m.time()
		for ; found%2 == 1; found = m.time() {
			m.done(api.Event{})
		}
		for n, c := range m.s.Attempt.Reads {
			m.pause(api.Event{}, api.Attempt{Phase: api.PhaseCheck, Then: then, Addr: addr, Found: found, At: n})
			if m.load(c.Addr) != c.Word {
				m.back()
				m.done(api.Event{Kind: api.Stale})
				return false
			}
		}
		m.pause(api.Event{}, api.Attempt{Phase: api.PhaseClose, Then: then, Addr: addr, Found: found})
		if m.time() == found {
			m.s.Attempt.Snapshot = found
			m.pause(api.Event{Kind: api.Moved, Word: found}, api.Attempt{Phase: then, Addr: addr})
			return true
		}
	}
}

// drawn is a source of numbers that is the same at each run.
type drawn uint64

func (d *drawn) next() uint64 {
	*d = *d*6364136223846793005 + 1442695040888963407
	return uint64(*d >> 33)
}

func (d *drawn) below(n int) int { return int(d.next() % uint64(n)) }

// word is a word near to 0, or to a bound.
func (d *drawn) word() uint64 {
	if d.below(12) == 0 {
		return []uint64{top, 1 << 63, 1<<63 - 1, 256}[d.below(4)]
	}
	return uint64(d.below(4))
}

// instr is an instruction that is formed, with such an operation.
func (d *drawn) instr(op api.Op, places int) api.Instr {
	form, _ := code.Info(op)
	i := api.Instr{Op: op}
	for n, r := range []*int{&i.A, &i.B, &i.C} {
		if n < form.Regs {
			*r = d.below(3)
		}
	}
	if form.Target {
		i.N = uint64(d.below(places + 1))
		if d.below(20) == 0 {
			i.N = d.word()
		}
	} else if form.Num {
		i.N = d.word()
	}
	return i
}

// wild is a program of any instructions that are formed.
func (d *drawn) wild(n int) []api.Instr {
	p := make([]api.Instr, n)
	for at := range p {
		p[at] = d.instr(api.Op(1+d.below(17)), n)
	}
	return p
}

// blocks is a program that is mostly blocks that end, one behind the other.
func (d *drawn) blocks(n int) []api.Instr {
	inside := []api.Op{api.OpGet, api.OpGet, api.OpGet, api.OpPut, api.OpPut, api.OpAdd, api.OpConst, api.OpEqual, api.OpZero, api.OpAbort, api.OpMul, api.OpSub, api.OpLess}
	outside := []api.Op{api.OpLoad, api.OpStore, api.OpConst, api.OpMove, api.OpJump, api.OpZero}
	var p []api.Instr
	for range n {
		for range d.below(3) {
			p = append(p, d.instr(outside[d.below(len(outside))], 4*n))
		}
		p = append(p, api.Instr{Op: api.OpBegin})
		for range 1 + d.below(6) {
			if op := inside[d.below(len(inside))]; op == api.OpAbort && d.below(4) > 0 {
				p = append(p, d.instr(api.OpGet, 0))
			} else {
				p = append(p, d.instr(op, 4*n))
			}
		}
		p = append(p, api.Instr{Op: api.OpEnd})
	}
	return append(p, api.Instr{Op: api.OpHalt})
}

// sameState holds two states against each other, no list and an empty one being the same.
func sameState(a, b api.Thread) bool {
	return slices.Equal(a.Attempt.Reads, b.Attempt.Reads) && slices.Equal(a.Attempt.Writes, b.Attempt.Writes) && reflect.DeepEqual(bare(a), bare(b))
}

// bare is a state without its attempt's lists.
func bare(s api.Thread) api.Thread {
	s.Attempt.Reads, s.Attempt.Writes = nil, nil
	return s
}

// rowOf, clockWord: what threads go over, and what the clock has (asked of a copy, which is no step of the clock).
func rowOf(t *testing.T, words ...uint64) *cells.Row {
	t.Helper()
	row, err := cells.Of(words...)
	if err != api.OK {
		t.Fatal(err)
	}
	return row
}

func clockWord(c *seq.Clock) uint64 {
	w, _ := c.Copy().Load()
	return w
}

// made is a thread at the beginning of a program.
func made(t *testing.T, p []api.Instr, row *cells.Row, clock *seq.Clock) *Thread {
	t.Helper()
	x, err := New(p, row, clock)
	if err != api.OK || x == nil {
		t.Fatalf("New answers %v, %v", x, err)
	}
	return x
}

// step does a step that is not refused.
func step(t *testing.T, x *Thread) api.Event {
	t.Helper()
	e, ok, err := x.Step()
	if err != api.OK || ok != (e.Kind != 0) || !ok && e != (api.Event{}) {
		t.Fatalf("Step answers %v, %v, %v", e, ok, err)
	}
	return e
}

// steps does so many steps, and tells their events.
func steps(t *testing.T, x *Thread, n int) []api.Event {
	t.Helper()
	var l []api.Event
	for range n {
		if e := step(t, x); e.Kind != 0 {
			l = append(l, e)
		}
	}
	return l
}
