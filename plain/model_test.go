package plain

import (
	"math"
	"reflect"
	"slices"
	"strings"
	"testing"

	"parley/api"
	"parley/check"
	"parley/code"
)

const top = math.MaxUint64

// prog reads a program, its instructions parted by '|'.
func prog(text string) []api.Instr {
	var p []api.Instr
	for line := range strings.SplitSeq(text, "|") {
		i, err := code.Parse(strings.TrimSpace(line))
		if err != api.OK {
			panic("no instruction: " + line)
		}
		p = append(p, i)
	}
	return p
}

// script is a script of so many cells, with these programs and no picks.
func script(cells int, first []uint64, programs ...string) api.Script {
	s := api.Script{Cells: cells, First: first}
	for _, text := range programs {
		s.Programs = append(s.Programs, prog(text))
	}
	return s
}

// modelBlock is a block as the chapter tells it: its words laid out afresh at each get, its logs looked through from the end on.
func modelBlock(p []api.Instr, at int, regs [8]uint64, words []uint64) (api.Stroke, []api.Event) {
	s := api.Stroke{Regs: regs, At: at + 1}
	var told []api.Event
	fail := func(err api.Errno) (api.Stroke, []api.Event) {
		s.Regs, s.At, s.Kind, s.Err = regs, at, api.Failed, err
		return s, append(told, api.Event{Kind: api.Failed, Err: err})
	}
	logged := 0
	for {
		if s.At < 0 || s.At >= len(p) || slices.Contains([]api.Op{api.OpLoad, api.OpStore, api.OpBegin, api.OpHalt}, p[s.At].Op) {
			return fail(api.ErrPlace)
		}
		if s.Fuel == 4096 {
			return fail(api.ErrFuel)
		}
		s.Fuel++
		i := p[s.At]
		s.At++
		switch i.Op {
		case api.OpGet:
			addr := s.Regs[i.B]
			e := api.Entry{Addr: addr}
			if n := slices.IndexFunc(s.Writes, func(c api.Cell) bool { return c.Addr == addr }); n >= 0 {
				e.Word, e.Own = s.Writes[n].Word, true
			} else if addr >= uint64(len(words)) {
				return fail(api.ErrRange)
			} else if logged++; logged > 1024 {
				return fail(api.ErrFull)
			} else {
				e.Word = words[addr]
			}
			s.Reads = append(s.Reads, e)
			s.Regs[i.A] = e.Word
			told = append(told, api.Event{Kind: api.Read, Addr: addr, Word: e.Word, Own: e.Own})
		case api.OpPut:
			c := api.Cell{Addr: s.Regs[i.B], Word: s.Regs[i.A]}
			if c.Addr >= uint64(len(words)) {
				return fail(api.ErrRange)
			}
			n := slices.IndexFunc(s.Writes, func(o api.Cell) bool { return c.Addr == o.Addr })
			if n < 0 && len(s.Writes) == 1024 {
				return fail(api.ErrFull)
			}
			if n < 0 {
				s.Writes = append(s.Writes, c)
			} else {
				s.Writes[n].Word = c.Word
			}
			told = append(told, api.Event{Kind: api.Write, Addr: c.Addr, Word: c.Word})
		case api.OpEnd:
			s.Kind = api.Committed
			return s, append(told, api.Event{Kind: api.Committed})
		case api.OpAbort:
			s.Kind, s.Regs, s.At = api.Aborted, regs, modelPlace(i.N)
			return s, append(told, api.Event{Kind: api.Aborted})
		default:
			modelReckon(i, &s.Regs, &s.At)
		}
	}
}

func modelPlace(n uint64) int {
	if n >= 1<<63 {
		return math.MaxInt
	}
	return int(n)
}

// modelReckon does an instruction that may stand anywhere, the place being the one behind it already.
func modelReckon(i api.Instr, r *[8]uint64, at *int) {
	b, c := r[i.B], r[i.C]
	switch i.Op {
	case api.OpConst:
		r[i.A] = i.N
	case api.OpMove:
		r[i.A] = b
	case api.OpAdd:
		r[i.A] = b + c
	case api.OpSub:
		r[i.A] = b - c
	case api.OpMul:
		r[i.A] = b * c
	case api.OpLess:
		if r[i.A] = 0; b < c {
			r[i.A] = 1
		}
	case api.OpEqual:
		if r[i.A] = 0; b == c {
			r[i.A] = 1
		}
	case api.OpJump:
		*at = modelPlace(i.N)
	case api.OpZero:
		if r[i.A] == 0 {
			*at = modelPlace(i.N)
		}
	default:
		panic(i.Op)
	}
}

// model is a machine as the chapter tells it.
type model struct {
	programs [][]api.Instr
	threads  []api.Thread
	words    []uint64
	commits  uint64
}

func modelOf(s api.Script) *model {
	m := &model{programs: s.Programs, words: make([]uint64, s.Cells)}
	copy(m.words, s.First)
	for range s.Programs {
		m.threads = append(m.threads, api.Thread{Status: api.Running})
	}
	return m
}

func (m *model) step(n int) []api.Event {
	t := &m.threads[n]
	if t.Status != api.Running {
		return nil
	}
	broken := func(err api.Errno) []api.Event {
		t.Status, t.Err = api.Broken, err
		return []api.Event{{Thread: n, Kind: api.Failed, Err: err}}
	}
	i := m.programs[n][t.At]
	switch addr := t.Regs[i.B]; i.Op {
	case api.OpBegin:
		return m.block(n, t)
	case api.OpHalt:
		t.Status = api.Ended
		return []api.Event{{Thread: n, Kind: api.Halted}}
	case api.OpLoad:
		if addr >= uint64(len(m.words)) {
			return broken(api.ErrRange)
		}
		t.Regs[i.A] = m.words[addr]
		t.At++
		return []api.Event{{Thread: n, Kind: api.Loaded, Addr: addr, Word: m.words[addr]}}
	case api.OpStore:
		if addr >= uint64(len(m.words)) {
			return broken(api.ErrRange)
		}
		m.words[addr] = t.Regs[i.A]
		t.At++
		return []api.Event{{Thread: n, Kind: api.Stored, Addr: addr, Word: t.Regs[i.A]}}
	}
	t.At++
	modelReckon(i, &t.Regs, &t.At)
	return nil
}

func (m *model) block(n int, t *api.Thread) []api.Event {
	s, told := modelBlock(m.programs[n], t.At, t.Regs, m.words)
	told = append([]api.Event{{Kind: api.Begin, Word: m.commits * 2}}, told...)
	t.Regs, t.At = s.Regs, s.At
	switch s.Kind {
	case api.Committed:
		for _, c := range s.Writes {
			m.words[c.Addr] = c.Word
		}
		if len(s.Writes) > 0 {
			m.commits++
		}
		told[len(told)-1].Word = m.commits
	case api.Failed:
		t.Status, t.Err = api.Broken, s.Err
	}
	for at := range told {
		told[at].Thread = n
	}
	return told
}

// sameStroke holds two strokes against each other, no list and an empty one being the same.
func sameStroke(a, b api.Stroke) bool {
	return slices.Equal(a.Reads, b.Reads) && slices.Equal(a.Writes, b.Writes) && a.Regs == b.Regs && a.At == b.At && a.Kind == b.Kind && a.Err == b.Err && a.Fuel == b.Fuel
}

// stands asks where a machine stands.
func stands(t *testing.T, m *Machine, want *model) {
	t.Helper()
	if m.Threads() != len(want.threads) || m.Commits() != want.commits || !slices.Equal(m.Words(), want.words) {
		t.Fatalf("%d threads, %d commits, %v, not %d, %d, %v", m.Threads(), m.Commits(), m.Words(), len(want.threads), want.commits, want.words)
	}
	for n, th := range want.threads {
		if got, err := m.Thread(n); err != api.OK || !reflect.DeepEqual(got, th) {
			t.Fatalf("thread %d stands at %+v, %v, not %+v", n, got, err, th)
		}
	}
}

// made is a machine of a script that is not refused.
func made(t *testing.T, s api.Script) *Machine {
	t.Helper()
	m, err := New(s)
	if m == nil || err != api.OK {
		t.Fatalf("New answers %v, %v", m, err)
	}
	return m
}

// step, picks: steps that are not refused.
func step(t *testing.T, m *Machine, n int) []api.Event {
	t.Helper()
	l, err := m.Step(n)
	if err != api.OK {
		t.Fatalf("Step(%d) answers %v", n, err)
	}
	return l
}

func picks(t *testing.T, m *Machine, list ...uint32) []api.Event {
	t.Helper()
	l, err := m.Picks(list...)
	if err != api.OK {
		t.Fatalf("Picks answers %v", err)
	}
	return l
}

// drawn is a source of numbers that is the same at each run.
type drawn uint64

func (d *drawn) next() uint64 {
	*d = *d*6364136223846793005 + 1442695040888963407
	return uint64(*d >> 33)
}

func (d *drawn) below(n int) int { return int(d.next() % uint64(n)) }

// list is so many picks, most of them near to 0.
func (d *drawn) list(n int) []uint32 {
	l := make([]uint32, n)
	for at := range l {
		if l[at] = uint32(d.below(8)); d.below(5) == 0 {
			l[at] = math.MaxUint32 - l[at]
		}
	}
	return l
}

// instr is an instruction of such an operation, whose registers are the first ones.
func (d *drawn) instr(op api.Op, target int) api.Instr {
	form, _ := code.Info(op)
	i := api.Instr{Op: op}
	for n, r := range []*int{&i.A, &i.B, &i.C} {
		if n < form.Regs {
			*r = d.below(3)
		}
	}
	if form.Target {
		i.N = uint64(target)
	} else if form.Num {
		i.N = uint64(d.below(3))
		if d.below(30) == 0 {
			i.N = top
		}
	}
	return i
}

// wild is a program of any instructions that are formed, most of them such as may stand inside, with targets of all kinds.
func (d *drawn) wild(n int) []api.Instr {
	p := make([]api.Instr, n)
	for at := range p {
		op := api.Op(1 + d.below(17))
		if d.below(3) > 0 {
			op = []api.Op{api.OpBegin, api.OpGet, api.OpGet, api.OpPut, api.OpPut, api.OpConst, api.OpEnd, api.OpAbort}[d.below(8)]
		}
		target := d.below(n + 2)
		if p[at] = d.instr(op, target); op == api.OpAbort && d.below(3) == 0 {
			p[at].N = []uint64{top, 1 << 63, 1<<63 - 1, 256, 1 << 32}[d.below(5)]
		}
	}
	return p
}

// program is a program that may run: blocks one behind the other, with other instructions between, and where they end now and then back to the beginning.
func (d *drawn) program(blocks int, plain bool) []api.Instr {
	inside := []api.Op{api.OpGet, api.OpGet, api.OpGet, api.OpPut, api.OpPut, api.OpAdd, api.OpConst, api.OpConst, api.OpEqual, api.OpSub, api.OpZero, api.OpLess, api.OpMul, api.OpMove}
	outside := []api.Op{api.OpConst, api.OpMove, api.OpAdd, api.OpEqual, api.OpZero, api.OpMul, api.OpSub, api.OpLess, api.OpJump}
	if plain {
		outside = append(outside, api.OpLoad, api.OpStore)
	}
	var p []api.Instr
	for range blocks {
		for range d.below(3) {
			p = append(p, d.instr(outside[d.below(len(outside))], len(p)+1))
		}
		begin := len(p)
		p = append(p, api.Instr{Op: api.OpBegin})
		for range 1 + d.below(6) {
			p = append(p, d.instr(inside[d.below(len(inside))], len(p)+1))
		}
		if d.below(4) == 0 {
			p = append(p, api.Instr{Op: api.OpZero, A: d.below(3), N: uint64(len(p) + 2)}, api.Instr{Op: api.OpAbort, N: uint64(begin)})
			if d.below(2) == 0 {
				p[len(p)-1].N = uint64(len(p) + 1)
			}
		}
		p = append(p, api.Instr{Op: api.OpEnd})
	}
	if d.below(5) == 0 {
		p = append(p, api.Instr{Op: api.OpJump})
	}
	p = append(p, api.Instr{Op: api.OpHalt})
	if w := check.Program(p); w.Err != api.OK {
		panic(w)
	}
	return p
}

// script is a script of a few cells, of 1 to 8 threads, without picks.
func (d *drawn) script(plain bool) api.Script {
	s := api.Script{Cells: 1 + d.below(4)}
	for range d.below(s.Cells + 1) {
		s.First = append(s.First, uint64(d.below(3)))
	}
	threads := 1 + d.below(3)
	if d.below(4) == 0 {
		threads = 1 + d.below(8)
	}
	for range threads {
		s.Programs = append(s.Programs, d.program(1+d.below(3), plain))
	}
	return s
}
