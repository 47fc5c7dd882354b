package races

import (
	"math"
	"slices"
	"strings"
	"testing"

	"parley/api"
	"parley/check"
	"parley/code"
	"parley/events"
	"parley/sched"
)

const top = math.MaxUint64

// hist reads a history, its events parted by ", ".
func hist(text string) []api.Event {
	if text == "" {
		return nil
	}
	h, at, err := events.Parse(strings.ReplaceAll(text, ", ", "\n") + "\n")
	if err != api.OK {
		panic("no event: " + strings.Split(text, ", ")[at])
	}
	return h
}

// asText is how a history stands in a message.
func asText(h []api.Event) string {
	text, _ := events.Text(h[:min(len(h), 200)])
	return strings.ReplaceAll(text, "\n", ", ")
}

// prog reads a program, its instructions parted by '|'.
func prog(text string) []api.Instr {
	var p []api.Instr
	for line := range strings.SplitSeq(text, "|") {
		i, err := code.Parse(strings.TrimSpace(line))
		if err != api.OK {
			panic("no instruction: " + line)
		}
		p = append(p, i)
	}
	return p
}

// script is a script of so many cells, with these programs and no picks.
func script(cells int, first []uint64, programs ...string) api.Script {
	s := api.Script{Cells: cells, First: first}
	for _, text := range programs {
		s.Programs = append(s.Programs, prog(text))
	}
	return s
}

// run is what a script's picks come to.
func run(t *testing.T, s api.Script) api.Outcome {
	t.Helper()
	o, err := sched.Run(s)
	if err != api.OK {
		t.Fatal(err)
	}
	return o
}

// few is a list's beginning, for messages.
func few[T any](l []T) []T { return l[:min(len(l), 60)] }

// modelPoint is a point, with what the chapters say of it.
type modelPoint struct {
	thread         int
	events         []int // their numbers
	block, writing bool
	number         uint64
	since          int
}

// modelPoints looks forward from each Begin to the end of its block.
func modelPoints(h []api.Event) []modelPoint {
	var l []modelPoint
	for at, e := range h {
		if e.Kind == api.Loaded || e.Kind == api.Stored {
			l = append(l, modelPoint{thread: e.Thread, events: []int{at}})
		}
		if e.Kind != api.Begin {
			continue
		}
		p := modelPoint{thread: e.Thread, block: true}
		locked, over := false, false
	block:
		for n := at; n < len(h); n++ {
			if h[n].Thread != e.Thread {
				continue
			}
			p.events = append(p.events, n)
			switch h[n].Kind {
			case api.Begin, api.Moved:
				p.number, p.since = h[n].Word/2, n
			case api.Locked:
				locked = true
			case api.Committed:
				p.number, p.writing, over = h[n].Word, locked, true
				break block
			case api.Aborted, api.Failed:
				over = true
				break block
			case api.Stale:
				break block
			}
		}
		if over {
			l = append(l, p)
		}
	}
	return l
}

// modelBefore tells whether a block stands ahead of another one in the order.
func modelBefore(p, q modelPoint) bool {
	if p.number != q.number {
		return p.number < q.number
	}
	if p.writing != q.writing {
		return p.writing
	}
	return p.since < q.since
}

// modelAhead is whether each point is ahead of each one: what the chapter's first two rules say, then over each third point.
func modelAhead(l []modelPoint) [][]bool {
	ahead := make([][]bool, len(l))
	for a, p := range l {
		ahead[a] = make([]bool, len(l))
		for b, q := range l {
			earlier := p.thread == q.thread && p.events[len(p.events)-1] < q.events[0]
			ahead[a][b] = earlier || a != b && p.block && q.block && modelBefore(p, q)
		}
	}
	for over := range l {
		for a := range l {
			for b := range l {
				ahead[a][b] = ahead[a][b] || ahead[a][over] && ahead[over][b]
			}
		}
	}
	return ahead
}

// modelOf is of each event its point, -1 if it belongs to none.
func modelOf(h []api.Event, l []modelPoint) []int {
	of := slices.Repeat([]int{-1}, len(h))
	for n, p := range l {
		for _, at := range p.events {
			of[at] = n
		}
	}
	return of
}

// model is what all calls must answer of a history that can be.
type model struct {
	h      []api.Event
	points []modelPoint
	of     []int
	before [][]bool
	list   []api.Access
	races  []api.Race
}

// modeled makes it.
func modeled(h []api.Event) *model {
	m := &model{h: h, points: modelPoints(h)}
	m.of, m.before = modelOf(h, m.points), modelAhead(m.points)
	for at, e := range h {
		a := api.Access{Event: at, Thread: e.Thread, Addr: e.Addr}
		switch {
		case e.Kind == api.Loaded:
			a.Plain = true
		case e.Kind == api.Stored:
			a.Plain, a.Writes = true, true
		case e.Kind == api.Read && !e.Own && m.of[at] >= 0:
		case e.Kind == api.Write && m.of[at] >= 0 && m.points[m.of[at]].writing:
			a.Writes = true
		default:
			continue
		}
		m.list = append(m.list, a)
	}
	for n, a := range m.list {
		for _, b := range m.list[n+1:] {
			if a.Addr == b.Addr && a.Thread != b.Thread && (a.Plain || b.Plain) && (a.Writes || b.Writes) && !m.ahead(a.Event, b.Event) && !m.ahead(b.Event, a.Event) {
				m.races = append(m.races, api.Race{First: a.Event, Second: b.Event})
			}
		}
	}
	return m
}

// ahead tells whether an event's point is ahead of another one's.
func (m *model) ahead(e, f int) bool {
	return e >= 0 && f >= 0 && e < len(m.h) && f < len(m.h) && m.of[e] >= 0 && m.of[f] >= 0 && m.before[m.of[e]][m.of[f]]
}

// told looks, of all points ahead of a load that write its cell, for the one behind which no other one is.
func (m *model) told(first []uint64, e int) (uint64, bool) {
	if len(m.races) > 0 || e < 0 || e >= len(m.h) || m.h[e].Kind != api.Loaded {
		return 0, false
	}
	words := map[int]uint64{} // of each such point the last word
	for _, a := range m.list {
		if a.Writes && a.Addr == m.h[e].Addr && m.ahead(a.Event, e) {
			words[m.of[a.Event]] = m.h[a.Event].Word
		}
	}
candidates:
	for p, word := range words {
		for q := range words {
			if m.before[p][q] {
				continue candidates
			}
		}
		return word, true
	}
	if addr := m.h[e].Addr; addr < uint64(len(first)) {
		return first[addr], true
	}
	return 0, true
}

// agrees holds all calls but Split against the model.
func agrees(t *testing.T, first []uint64, h []api.Event) *model {
	t.Helper()
	m := modeled(h)
	accessesAre(t, h, m.list...)
	racesAre(t, h, m.races...)
	for e := range h {
		if word, ok := m.told(first, e); ok || e%7 == 0 {
			tells(t, h, first, e, word, ok)
		}
	}
	return m
}

// accessesAre asks for a history's accesses.
func accessesAre(t *testing.T, h []api.Event, want ...api.Access) {
	t.Helper()
	if got, err := Accesses(h); err != api.OK || !slices.Equal(got, want) {
		t.Errorf("Accesses of %s answers\n%+v, %v, not\n%+v", asText(h), few(got), err, few(want))
	}
}

// aheadIs asks whether an event is ahead of another one.
func aheadIs(t *testing.T, h []api.Event, e, f int, want bool) {
	t.Helper()
	if got := Ahead(h, e, f); got != want {
		t.Errorf("Ahead of %s, %d, %d is %v", asText(h), e, f, got)
	}
}

// racesAre asks for a history's races, and whether it is quiet.
func racesAre(t *testing.T, h []api.Event, want ...api.Race) {
	t.Helper()
	if got, err := Races(h); err != api.OK || !slices.Equal(got, want) {
		t.Errorf("Races of %s answers %v, %v, not %v", asText(h), few(got), err, few(want))
	}
	if got := Quiet(h); got != (len(want) == 0) {
		t.Errorf("Quiet of %s is %v, though it has %d races", asText(h), got, len(want))
	}
}

// raceList is races, each two numbers.
func raceList(l ...int) []api.Race {
	var out []api.Race
	for n := 0; n < len(l); n += 2 {
		out = append(out, api.Race{First: l[n], Second: l[n+1]})
	}
	return out
}

// tells asks for what a load must tell.
func tells(t *testing.T, h []api.Event, first []uint64, e int, want uint64, ok bool) {
	t.Helper()
	if got, gotOK := Told(h, first, e); got != want || gotOK != ok {
		t.Errorf("Told of %s, %v, %d answers %d, %v, not %d, %v", asText(h), few(first), e, got, gotOK, want, ok)
	}
}

// drawn is a source of numbers that is the same at each run.
type drawn uint64

func (d *drawn) next() uint64 {
	*d = *d*6364136223846793005 + 1442695040888963407
	return uint64(*d >> 33)
}

func (d *drawn) below(n int) int { return int(d.next() % uint64(n)) }

// instr is an instruction of such an operation, whose registers are the first ones.
func (d *drawn) instr(op api.Op, target int) api.Instr {
	form, _ := code.Info(op)
	i := api.Instr{Op: op}
	for n, r := range []*int{&i.A, &i.B, &i.C} {
		if n < form.Regs {
			*r = d.below(3)
		}
	}
	if form.Target {
		i.N = uint64(target)
	} else if form.Num {
		i.N = uint64(d.below(4))
	}
	return i
}

// program is a program that may run: blocks one behind the other, with other instructions between, loads and stores among them, and at the end now and then back to the beginning.
func (d *drawn) program(blocks int) []api.Instr {
	inside := []api.Op{api.OpGet, api.OpGet, api.OpPut, api.OpPut, api.OpAdd, api.OpConst, api.OpConst, api.OpEqual, api.OpZero}
	outside := []api.Op{api.OpLoad, api.OpLoad, api.OpStore, api.OpConst, api.OpConst, api.OpAdd, api.OpZero}
	var p []api.Instr
	for range blocks {
		for range d.below(5) {
			p = append(p, d.instr(outside[d.below(len(outside))], len(p)+1))
		}
		begin := len(p)
		p = append(p, api.Instr{Op: api.OpBegin})
		kinds := inside
		if d.below(3) == 0 { // one that reads alone
			kinds = []api.Op{api.OpGet, api.OpGet, api.OpMove, api.OpConst}
		}
		for range d.below(6) {
			p = append(p, d.instr(kinds[d.below(len(kinds))], len(p)+1))
		}
		if d.below(6) == 0 {
			p = append(p, api.Instr{Op: api.OpZero, A: d.below(3), N: uint64(len(p) + 2)}, api.Instr{Op: api.OpAbort, N: uint64(begin)})
		}
		p = append(p, api.Instr{Op: api.OpEnd})
	}
	if d.below(3) == 0 {
		p = append(p, d.instr(api.OpLoad, 0))
	}
	if d.below(2) == 0 {
		p = append(p, api.Instr{Op: api.OpJump})
	}
	p = append(p, api.Instr{Op: api.OpHalt})
	if w := check.Program(p); w.Err != api.OK {
		panic(w)
	}
	return p
}

// picks draws so many, some of which let one thread go on for a while.
func (d *drawn) picks(count int) []uint32 {
	var l []uint32
	at := uint32(0)
	for range count {
		if d.below(3) > 0 {
			at = uint32(d.next())
		}
		l = append(l, at)
	}
	return l
}

// script is a script of a few cells, of 1 to 8 threads, with up to so many picks.
func (d *drawn) script(most int) api.Script {
	s := api.Script{Cells: 3 + d.below(3), First: d.first()}
	for range 1 + d.below(8) {
		s.Programs = append(s.Programs, d.program(1+d.below(3)))
	}
	s.Picks = d.picks(d.below(most + 1))
	return s
}

// first is a few first words.
func (d *drawn) first() []uint64 {
	var l []uint64
	for range d.below(4) {
		l = append(l, uint64(5+d.below(3)))
	}
	return l
}

// event is one that is in form, mostly of small numbers, over so many cells.
func (d *drawn) event(threads, cells int, number uint64) api.Event {
	kinds := []api.EventKind{api.Begin, api.Begin, api.Read, api.Read, api.Write, api.Write, api.Moved, api.Moved, api.Locked, api.Locked, api.Committed, api.Committed, api.Stale, api.Aborted, api.Failed, api.Loaded, api.Loaded, api.Stored, api.Halted}
	e := api.Event{Thread: d.below(threads), Kind: kinds[d.below(len(kinds))]}
	switch e.Kind {
	case api.Begin, api.Moved:
		e.Word = 2 * number
	case api.Committed:
		e.Word = number + uint64(d.below(3)) - 1
	case api.Read, api.Write, api.Loaded, api.Stored:
		e.Addr, e.Word, e.Own = uint64(d.below(cells)), uint64(d.below(3)), e.Kind == api.Read && d.below(4) == 0
		if d.below(20) == 0 {
			e.Addr = top - e.Addr
		}
	case api.Failed:
		e.Err = api.Errno(4 + d.below(3))
	}
	return e
}

// history is one that can be, of up to so many events, over so many cells.
func (d *drawn) history(most, threads, cells int) []api.Event {
	var h []api.Event
	number := uint64(0)
	for range most * 6 {
		e := d.event(threads, cells, number)
		// What ends a thread, or an attempt without a commit, would else leave few points; and the attempts of one thread are to go on while others commit.
		ends := e.Kind == api.Stale || e.Kind == api.Aborted
		if len(h) == most || (e.Kind == api.Halted || e.Kind == api.Failed) && d.below(20) > 0 || ends && d.below(3) > 0 || e.Thread == 1 && (ends || e.Kind == api.Committed) && d.below(8) > 0 {
			continue
		}
		with := append(h[:len(h):len(h)], e)
		if events.Check(with).Err != api.OK {
			continue
		}
		if h = with; e.Kind == api.Committed && e.Word > number {
			number = e.Word
		}
	}
	return h
}
