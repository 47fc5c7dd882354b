package witness

import (
	"math"
	"reflect"
	"slices"
	"strings"
	"testing"

	"parley/api"
	"parley/check"
	"parley/code"
	"parley/events"
	"parley/sched"
)

const top = math.MaxUint64

// prog reads a program, its instructions parted by '|'.
func prog(text string) []api.Instr {
	var p []api.Instr
	for line := range strings.SplitSeq(text, "|") {
		i, err := code.Parse(strings.TrimSpace(line))
		if err != api.OK {
			panic("no instruction: " + line)
		}
		p = append(p, i)
	}
	return p
}

// script is a script of so many cells, with these programs and no picks.
func script(cells int, first []uint64, programs ...string) api.Script {
	s := api.Script{Cells: cells, First: first}
	for _, text := range programs {
		s.Programs = append(s.Programs, prog(text))
	}
	return s
}

// hist reads a history, its events parted by ", ".
func hist(text string) []api.Event {
	if text == "" {
		return nil
	}
	h, at, err := events.Parse(strings.ReplaceAll(text, ", ", "\n") + "\n")
	if err != api.OK {
		panic("no event: " + strings.Split(text, ", ")[at])
	}
	return h
}

// asText is how a history stands in a message.
func asText(h []api.Event) string {
	text, _ := events.Text(h[:min(len(h), 200)])
	return strings.ReplaceAll(text, "\n", ", ")
}

// run is the outcome of a script's picks.
func run(t *testing.T, s api.Script) api.Outcome {
	t.Helper()
	o, err := sched.Run(s)
	if err != api.OK {
		t.Fatal(err)
	}
	return o
}

// sameBlock holds two blocks against each other, no list and an empty one being the same.
func sameBlock(a, b api.Block) bool {
	if !slices.Equal(a.Reads, b.Reads) || !slices.Equal(a.Writes, b.Writes) {
		return false
	}
	a.Reads, a.Writes, b.Reads, b.Writes = nil, nil, nil, nil
	return reflect.DeepEqual(a, b)
}

func sameProof(a, b api.Proof) bool {
	return slices.Equal(a.Order, b.Order) && a.Wrong == b.Wrong && slices.Equal(a.Cells, b.Cells) &&
		slices.EqualFunc(a.Threads, b.Threads, func(x, y api.Thread) bool { return reflect.DeepEqual(x, y) })
}

// modelBlocks looks forward from each Begin of a history that can be to the thread's next event that ends a block.
func modelBlocks(h []api.Event) []api.Block {
	ends := map[api.EventKind]api.BlockKind{api.Committed: 1, api.Aborted: 2, api.Failed: 3, api.Stale: 4}
	var l []api.Block
	for first, begin := range h {
		if begin.Kind != api.Begin {
			continue
		}
		b := api.Block{Thread: begin.Thread, Kind: 5, First: first}
		snapshot, locked := begin.Word, false
		for at := first; at < len(h) && b.Kind == 5; at++ {
			e := h[at]
			if e.Thread != begin.Thread {
				continue
			}
			b.Last = at
			if end := ends[e.Kind]; end != 0 {
				b.Kind, b.Err = end, e.Err
			}
			switch {
			case e.Kind == api.Moved:
				snapshot = e.Word
			case e.Kind == api.Locked:
				locked = true
			case e.Kind == api.Read && !e.Own:
				b.Reads = append(b.Reads, api.Entry{Addr: e.Addr, Word: e.Word})
			case e.Kind == api.Write:
				b.Writes = append(b.Writes, api.Entry{Addr: e.Addr, Word: e.Word})
			}
		}
		if b.Number = snapshot / 2; b.Kind == 1 && locked {
			b.Number, b.Writing = h[b.Last].Word, true
		}
		l = append(l, b)
	}
	return l
}

// modelSince looks back from a block's end to its last Begin or Moved.
func modelSince(h []api.Event, b api.Block) int {
	for at := b.Last; ; at-- {
		if e := h[at]; e.Thread == b.Thread && (e.Kind == api.Begin || e.Kind == api.Moved) {
			return at
		}
	}
}

// modelOrder puts each block that is over behind as many as stand ahead of it.
func modelOrder(h []api.Event) []int {
	l := modelBlocks(h)
	isOver := func(b api.Block) bool { return b.Kind >= 1 && b.Kind <= 3 }
	ahead := func(a, b api.Block) bool {
		switch {
		case a.Number != b.Number:
			return a.Number < b.Number
		case a.Writing || b.Writing:
			return a.Writing && !b.Writing
		}
		return modelSince(h, a) < modelSince(h, b)
	}
	places := map[int]int{}
	for n, b := range l {
		if !isOver(b) {
			continue
		}
		place := 0
		for _, a := range l {
			if isOver(a) && ahead(a, b) {
				place++
			}
		}
		places[place] = n
	}
	var order []int
	for place := range len(places) {
		order = append(order, places[place])
	}
	return order
}

// modelMachine is the machine of one stroke, as far as it goes from block to block.
type modelMachine struct {
	programs [][]api.Instr
	threads  []api.Thread
	words    []uint64
}

// next goes on with a thread up to the end of its next block: that block's reads, writes and end; a zero one, if there is none.
func (m *modelMachine) next(n int) api.Block {
	t := &m.threads[n]
	for range api.MaxPicks {
		if t.Status != api.Running {
			break
		}
		i := m.programs[n][t.At]
		inside := t.Regs[i.B] < uint64(len(m.words))
		switch {
		case i.Op == api.OpBegin:
			return m.block(n)
		case i.Op == api.OpHalt:
			t.Status = api.Ended
		case (i.Op == api.OpLoad || i.Op == api.OpStore) && !inside:
			t.Status, t.Err = api.Broken, api.ErrRange
		case i.Op == api.OpLoad:
			t.Regs[i.A] = m.words[t.Regs[i.B]]
			t.At++
		case i.Op == api.OpStore:
			m.words[t.Regs[i.B]] = t.Regs[i.A]
			t.At++
		default:
			t.At++
			modelReckon(i, &t.Regs, &t.At)
		}
	}
	return api.Block{}
}

// block does the block at whose begin a thread stands, over words of its own that are kept if it commits.
func (m *modelMachine) block(n int) api.Block {
	t := &m.threads[n]
	begin, ahead, words := t.At, t.Regs, slices.Clone(m.words)
	mine := map[uint64]bool{}
	b := api.Block{}
	for fuel := 1; ; fuel++ {
		t.At++
		i := m.programs[n][t.At]
		addr := t.Regs[i.B]
		b.Err = m.refusal(i, addr, fuel, len(b.Reads), mine)
		switch {
		case b.Err != api.OK:
			b.Kind = 3
			t.Status, t.Err, t.At, t.Regs = api.Broken, b.Err, begin, ahead
			return b
		case i.Op == api.OpEnd:
			b.Kind, m.words = 1, words
			t.At++
			return b
		case i.Op == api.OpAbort:
			b.Kind = 2
			t.At, t.Regs = int(i.N), ahead
			return b
		case i.Op == api.OpGet:
			if t.Regs[i.A] = words[addr]; !mine[addr] {
				b.Reads = append(b.Reads, api.Entry{Addr: addr, Word: words[addr]})
			}
		case i.Op == api.OpPut:
			words[addr], mine[addr] = t.Regs[i.A], true
			b.Writes = append(b.Writes, api.Entry{Addr: addr, Word: words[addr]})
		default:
			t.At++
			modelReckon(i, &t.Regs, &t.At)
			t.At--
		}
	}
}

// refusal is the error with which an instruction of a block ends.
func (m *modelMachine) refusal(i api.Instr, addr uint64, fuel, reads int, mine map[uint64]bool) api.Errno {
	access := i.Op == api.OpGet || i.Op == api.OpPut
	switch {
	case fuel > 4096:
		return api.ErrFuel
	case access && addr >= uint64(len(m.words)):
		return api.ErrRange
	case i.Op == api.OpGet && !mine[addr] && reads == 1024, i.Op == api.OpPut && !mine[addr] && len(mine) == 1024:
		return api.ErrFull
	}
	return api.OK
}

// modelReckon does an instruction that may stand anywhere, the place being the one behind it already.
func modelReckon(i api.Instr, r *[8]uint64, at *int) {
	b, c := r[i.B], r[i.C]
	truth := map[bool]uint64{true: 1}
	switch i.Op {
	case api.OpConst:
		r[i.A] = i.N
	case api.OpMove:
		r[i.A] = b
	case api.OpAdd:
		r[i.A] = b + c
	case api.OpSub:
		r[i.A] = b - c
	case api.OpMul:
		r[i.A] = b * c
	case api.OpLess:
		r[i.A] = truth[b < c]
	case api.OpEqual:
		r[i.A] = truth[b == c]
	case api.OpJump:
		*at = int(i.N)
	case api.OpZero:
		if r[i.A] == 0 {
			*at = int(i.N)
		}
	default:
		panic(i.Op)
	}
}

// modelProve plays a history of a script again, neither of which is to be refused.
func modelProve(s api.Script, h []api.Event) api.Proof {
	m := &modelMachine{programs: s.Programs, words: make([]uint64, s.Cells)}
	copy(m.words, s.First)
	for range s.Programs {
		m.threads = append(m.threads, api.Thread{Status: api.Running})
	}
	l, p := modelBlocks(h), api.Proof{Order: modelOrder(h), Wrong: -1}
	for at, n := range p.Order {
		got := m.next(l[n].Thread)
		want := api.Block{Kind: l[n].Kind, Err: l[n].Err, Reads: l[n].Reads, Writes: l[n].Writes}
		if !sameBlock(got, want) {
			p.Wrong = at
			return p
		}
	}
	p.Cells, p.Threads = m.words, m.threads
	return p
}

// modelOutside tells whether a history that can be has plain accesses.
func modelOutside(h []api.Event) bool {
	blocks := modelBlocks(h)
	for at, e := range h {
		within := func(b api.Block) bool { return b.Thread == e.Thread && b.First <= at && at <= b.Last }
		if e.Kind == api.Loaded || e.Kind == api.Stored || e.Kind == api.Failed && !slices.ContainsFunc(blocks, within) {
			return true
		}
	}
	return false
}

// proves asks for a proof that is not refused.
func proves(t *testing.T, s api.Script, h []api.Event, want api.Proof) {
	t.Helper()
	if got, err := Prove(s, h); err != api.OK || !sameProof(got, want) {
		if len(want.Cells) > 20 {
			got.Cells, want.Cells = nil, nil
		}
		t.Fatalf("Prove of %s answers %+v, %v, not %+v", asText(h), got, err, want)
	}
}

// refuses asks for a proof that is refused.
func refuses(t *testing.T, s api.Script, h []api.Event, want api.Errno) {
	t.Helper()
	if got, err := Prove(s, h); err != want || !reflect.DeepEqual(got, api.Proof{}) {
		t.Errorf("Prove of %v answers %+v, %v, not %v", h, got, err, want)
	}
}

// drawn is a source of numbers that is the same at each run.
type drawn uint64

func (d *drawn) next() uint64 {
	*d = *d*6364136223846793005 + 1442695040888963407
	return uint64(*d >> 33)
}

func (d *drawn) below(n int) int { return int(d.next() % uint64(n)) }

// instr is an instruction of such an operation, whose registers are the first ones.
func (d *drawn) instr(op api.Op, target int) api.Instr {
	form, _ := code.Info(op)
	i := api.Instr{Op: op}
	for n, r := range []*int{&i.A, &i.B, &i.C} {
		if n < form.Regs {
			*r = d.below(3)
		}
	}
	if form.Target {
		i.N = uint64(target)
	} else if form.Num {
		i.N = uint64(d.below(3))
		if d.below(40) == 0 {
			i.N = top
		}
	}
	return i
}

// program is a program without plain accesses that may run: blocks one behind the other, with other instructions between, and at the end now and then back to the beginning.
func (d *drawn) program(blocks int) []api.Instr {
	inside := []api.Op{api.OpGet, api.OpGet, api.OpGet, api.OpPut, api.OpPut, api.OpPut, api.OpAdd, api.OpAdd, api.OpConst, api.OpEqual, api.OpSub, api.OpZero, api.OpLess}
	outside := []api.Op{api.OpConst, api.OpMove, api.OpAdd, api.OpEqual, api.OpZero}
	var p []api.Instr
	for range blocks {
		for range d.below(3) {
			p = append(p, d.instr(outside[d.below(len(outside))], len(p)+1))
		}
		begin := len(p)
		p = append(p, api.Instr{Op: api.OpBegin})
		kinds := inside
		if d.below(4) == 0 { // one that reads alone
			kinds = []api.Op{api.OpGet, api.OpGet, api.OpMove, api.OpConst}
		}
		for range 1 + d.below(6) {
			p = append(p, d.instr(kinds[d.below(len(kinds))], len(p)+1))
		}
		if d.below(5) == 0 {
			p = append(p, api.Instr{Op: api.OpZero, A: d.below(3), N: uint64(len(p) + 2)}, api.Instr{Op: api.OpAbort, N: uint64(begin)})
			if d.below(2) == 0 {
				p[len(p)-1].N = uint64(len(p) + 1)
			}
		}
		p = append(p, api.Instr{Op: api.OpEnd})
	}
	if d.below(3) == 0 {
		p = append(p, api.Instr{Op: api.OpJump})
	}
	p = append(p, api.Instr{Op: api.OpHalt})
	if w := check.Program(p); w.Err != api.OK {
		panic(w)
	}
	return p
}

// script is a script without plain accesses of a few cells, of 1 to 8 threads, with its picks.
func (d *drawn) script() api.Script {
	s := api.Script{Cells: 1 + d.below(4)}
	for range d.below(s.Cells + 1) {
		s.First = append(s.First, uint64(d.below(3)))
	}
	threads := 1 + d.below(4)
	if d.below(4) == 0 {
		threads = 1 + d.below(8)
	}
	for range threads {
		s.Programs = append(s.Programs, d.program(1+d.below(3)))
	}
	at := uint32(0)
	for range d.below(300) {
		if d.below(3) > 0 { // some go on for a while
			at = uint32(d.next())
		}
		s.Picks = append(s.Picks, at)
	}
	return s
}

// event is one that is in form, mostly of small numbers.
func (d *drawn) event(threads int, number uint64) api.Event {
	kind := api.EventKind(1 + d.below(12))
	e := api.Event{Thread: d.below(threads), Kind: kind}
	switch kind {
	case api.Begin, api.Moved:
		e.Word = 2 * number
	case api.Committed:
		e.Word = number + uint64(d.below(3)) - 1
	case api.Read, api.Write, api.Loaded, api.Stored:
		e.Addr, e.Word, e.Own = uint64(d.below(3)), uint64(d.below(2)), kind == api.Read && d.below(3) == 0
	case api.Failed:
		e.Err = api.Errno(4 + d.below(3))
	}
	return e
}

// history is one that can be, of up to so many events; with no plain accesses, if these are not asked for.
func (d *drawn) history(most, threads int, plain bool) []api.Event {
	var h []api.Event
	number := uint64(0)
	for range most * 6 {
		e := d.event(threads, number)
		// What ends a thread is drawn as often as all else: histories would be over at once.
		if len(h) == most || (e.Kind == api.Halted || e.Kind == api.Failed) && d.below(8) > 0 {
			continue
		}
		with := append(h[:len(h):len(h)], e)
		if events.Check(with).Err != api.OK || !plain && modelOutside(with) {
			continue
		}
		if h = with; e.Kind == api.Committed && e.Word > number {
			number = e.Word
		}
	}
	return h
}

// changed is a history with one thing changed that leaves it one that can be, without plain accesses: a word or an address, how a block ended, an event left out, told twice, or exchanged with the next one. None, if what was drawn does not.
func (d *drawn) changed(h []api.Event) ([]api.Event, bool) {
	if len(h) == 0 {
		return nil, false
	}
	at := d.below(len(h))
	h = slices.Clone(h)
	switch e := &h[at]; d.below(6) {
	case 0, 1:
		if e.Kind == api.Read || e.Kind == api.Write {
			e.Word = uint64(d.below(5))
		}
	case 2:
		if e.Kind == api.Read || e.Kind == api.Write {
			e.Addr = uint64(d.below(5))
		}
	case 3:
		if at+1 < len(h) {
			h[at], h[at+1] = h[at+1], h[at]
		}
	case 4:
		h = slices.Delete(h, at, at+1)
	case 5:
		switch e.Kind {
		case api.Committed, api.Aborted, api.Stale, api.Failed:
			*e = api.Event{Thread: e.Thread, Kind: []api.EventKind{api.Aborted, api.Stale, api.Failed}[d.below(3)]}
			if e.Kind == api.Failed {
				e.Err = api.Errno(4 + d.below(3))
			}
		case api.Read, api.Write:
			h = slices.Insert(h, at, *e)
		}
	}
	return h, events.Check(h).Err == api.OK && !modelOutside(h)
}
