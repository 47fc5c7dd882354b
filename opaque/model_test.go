package opaque

import (
	"math"
	"slices"
	"strings"
	"testing"

	"parley/api"
	"parley/check"
	"parley/code"
	"parley/events"
	"parley/sched"
)

const top = math.MaxUint64

// fine is the Odd beside an answer that is no refusal.
var fine = api.Odd{At: -1, Err: api.OK}

// hist reads a history, its events parted by ", ".
func hist(text string) []api.Event {
	if text == "" {
		return nil
	}
	h, at, err := events.Parse(strings.ReplaceAll(text, ", ", "\n") + "\n")
	if err != api.OK {
		panic("no event: " + strings.Split(text, ", ")[at])
	}
	return h
}

// asText is how a history stands in a message.
func asText(h []api.Event) string {
	text, _ := events.Text(h[:min(len(h), 200)])
	return strings.ReplaceAll(text, "\n", ", ")
}

// prog reads a program, its instructions parted by '|'.
func prog(text string) []api.Instr {
	var p []api.Instr
	for line := range strings.SplitSeq(text, "|") {
		i, err := code.Parse(strings.TrimSpace(line))
		if err != api.OK {
			panic("no instruction: " + line)
		}
		p = append(p, i)
	}
	return p
}

// script is a script of so many cells, with these programs and no picks.
func script(cells int, first []uint64, programs ...string) api.Script {
	s := api.Script{Cells: cells, First: first}
	for _, text := range programs {
		s.Programs = append(s.Programs, prog(text))
	}
	return s
}

// run is the history of a script's picks.
func run(t *testing.T, s api.Script) []api.Event {
	t.Helper()
	o, err := sched.Run(s)
	if err != api.OK {
		t.Fatal(err)
	}
	return o.Events
}

// allFirst is the first words of all of a script's cells.
func allFirst(s api.Script) []uint64 {
	l := make([]uint64, s.Cells)
	copy(l, s.First)
	return l
}

// cellList is addresses with their words.
func cellList(l ...uint64) []api.Cell {
	var out []api.Cell
	for n := 0; n < len(l); n += 2 {
		out = append(out, api.Cell{Addr: l[n], Word: l[n+1]})
	}
	return out
}

// attemptOf is the events of the attempt that begins at a place of a history that can be, and where they stand.
func attemptOf(h []api.Event, first int) (own []api.Event, places []int) {
	for at := first; at < len(h); at++ {
		if h[at].Thread != h[first].Thread {
			continue
		}
		own, places = append(own, h[at]), append(places, at)
		switch h[at].Kind {
		case api.Committed, api.Aborted, api.Failed, api.Stale:
			return own, places
		}
	}
	return own, places
}

// isWritingCommit looks back from an event to whether its attempt was Locked.
func isWritingCommit(h []api.Event, at int) bool {
	if h[at].Kind != api.Committed {
		return false
	}
	for n := at - 1; ; n-- {
		if e := h[n]; e.Thread == h[at].Thread && (e.Kind == api.Locked || e.Kind == api.Begin) {
			return e.Kind == api.Locked
		}
	}
}

// modelStates is the cells behind 0, 1, 2 and so on writing commits.
func modelStates(first []uint64, h []api.Event) [][]uint64 {
	states := [][]uint64{slices.Clone(first)}
	for at, e := range h {
		if !isWritingCommit(h, at) {
			continue
		}
		begin := at
		for h[begin].Thread != e.Thread || h[begin].Kind != api.Begin {
			begin--
		}
		cells := slices.Clone(states[len(states)-1])
		for _, w := range h[begin:at] {
			if w.Thread == e.Thread && w.Kind == api.Write {
				cells[w.Addr] = w.Word
			}
		}
		states = append(states, cells)
	}
	return states
}

// modelTogether asks each state for each word.
func modelTogether(first []uint64, h []api.Event, words ...api.Cell) []int {
	var l []int
	for n, cells := range modelStates(first, h) {
		if !slices.ContainsFunc(words, func(w api.Cell) bool { return cells[w.Addr] != w.Word }) {
			l = append(l, n)
		}
	}
	return l
}

// modelRead is what the attempt that begins at a place has read.
func modelRead(h []api.Event, first int) []api.Cell {
	var l []api.Cell
	own, _ := attemptOf(h, first)
	for _, e := range own {
		if e.Kind == api.Read && !e.Own {
			l = append(l, api.Cell{Addr: e.Addr, Word: e.Word})
		}
	}
	return l
}

// modelSights looks forward from each Begin, and counts the writing commits ahead of its attempt's ends anew.
func modelSights(first []uint64, h []api.Event) []api.Sight {
	var l []api.Sight
	for begin, e := range h {
		if e.Kind != api.Begin {
			continue
		}
		own, places := attemptOf(h, begin)
		s := api.Sight{Try: api.Try{Thread: e.Thread, First: begin, Last: places[len(places)-1]}, At: -1}
		for _, e := range own {
			switch {
			case e.Kind == api.Begin || e.Kind == api.Moved:
				s.Try.Snapshot = e.Word
			case e.Kind == api.Read && !e.Own:
				s.Try.Reads++
			case e.Kind == api.Write:
				s.Try.Writes++
			case e.Kind == api.Committed || e.Kind == api.Aborted || e.Kind == api.Failed || e.Kind == api.Stale:
				s.Try.How = e.Kind
			}
		}
		for at := range h[:s.Last+1] {
			if isWritingCommit(h, at) {
				s.Upto++
				if at < s.First {
					s.From++
				}
			}
		}
		for _, n := range modelTogether(first, h, modelRead(h, begin)...) {
			if n >= s.From && n <= s.Upto {
				s.At = n
			}
		}
		l = append(l, s)
	}
	return l
}

// modelCheck is the place of the first sight without an At.
func modelCheck(first []uint64, h []api.Event) int {
	for n, s := range modelSights(first, h) {
		if s.At == -1 {
			return n
		}
	}
	return -1
}

// modelNever goes over all addresses and over all words that were read.
func modelNever(first []uint64, h []api.Event) []api.Cell {
	var words []uint64
	read := map[api.Cell]bool{}
	for _, e := range h {
		if e.Kind == api.Read && !e.Own {
			words = append(words, e.Word)
			read[api.Cell{Addr: e.Addr, Word: e.Word}] = true
		}
	}
	slices.Sort(words)
	states := modelStates(first, h)
	var l []api.Cell
	for addr := range first {
		for _, w := range slices.Compact(slices.Clone(words)) {
			c := api.Cell{Addr: uint64(addr), Word: w}
			if read[c] && !slices.ContainsFunc(states, func(cells []uint64) bool { return cells[addr] == w }) {
				l = append(l, c)
			}
		}
	}
	return l
}

// drawn is a source of numbers that is the same at each run.
type drawn uint64

func (d *drawn) next() uint64 {
	*d = *d*6364136223846793005 + 1442695040888963407
	return uint64(*d >> 33)
}

func (d *drawn) below(n int) int { return int(d.next() % uint64(n)) }

// instr is an instruction of such an operation, whose registers are the first ones.
func (d *drawn) instr(op api.Op, target int) api.Instr {
	form, _ := code.Info(op)
	i := api.Instr{Op: op}
	for n, r := range []*int{&i.A, &i.B, &i.C} {
		if n < form.Regs {
			*r = d.below(3)
		}
	}
	if form.Target {
		i.N = uint64(target)
	} else if form.Num {
		i.N = uint64(d.below(3))
		if d.below(40) == 0 {
			i.N = top
		}
	}
	return i
}

// program is a program without load and store that may run: blocks one behind the other, with other instructions between, and at the end now and then back to the beginning.
func (d *drawn) program(blocks int) []api.Instr {
	inside := []api.Op{api.OpGet, api.OpGet, api.OpGet, api.OpPut, api.OpPut, api.OpAdd, api.OpAdd, api.OpConst, api.OpEqual, api.OpSub, api.OpZero, api.OpLess}
	outside := []api.Op{api.OpConst, api.OpMove, api.OpAdd, api.OpEqual, api.OpZero}
	var p []api.Instr
	for range blocks {
		for range d.below(3) {
			p = append(p, d.instr(outside[d.below(len(outside))], len(p)+1))
		}
		begin := len(p)
		p = append(p, api.Instr{Op: api.OpBegin})
		kinds := inside
		if d.below(4) == 0 { // one that reads alone
			kinds = []api.Op{api.OpGet, api.OpGet, api.OpMove, api.OpConst}
		}
		for range 1 + d.below(8) {
			p = append(p, d.instr(kinds[d.below(len(kinds))], len(p)+1))
		}
		if d.below(5) == 0 {
			p = append(p, api.Instr{Op: api.OpZero, A: d.below(3), N: uint64(len(p) + 2)}, api.Instr{Op: api.OpAbort, N: uint64(begin)})
			if d.below(2) == 0 {
				p[len(p)-1].N = uint64(len(p) + 1)
			}
		}
		p = append(p, api.Instr{Op: api.OpEnd})
	}
	if d.below(3) == 0 {
		p = append(p, api.Instr{Op: api.OpJump})
	}
	p = append(p, api.Instr{Op: api.OpHalt})
	if w := check.Program(p); w.Err != api.OK {
		panic(w)
	}
	return p
}

// picks draws so many, some of which let one thread go on for a while.
func (d *drawn) picks(count int) []uint32 {
	var l []uint32
	at := uint32(0)
	for range count {
		if d.below(3) > 0 {
			at = uint32(d.next())
		}
		l = append(l, at)
	}
	return l
}

// script is a script without load and store of a few cells, of 1 to 8 threads, with its picks.
func (d *drawn) script() api.Script {
	s := api.Script{Cells: 1 + d.below(4)}
	for range d.below(s.Cells + 1) {
		s.First = append(s.First, uint64(d.below(3)))
	}
	threads := 1 + d.below(4)
	if d.below(4) == 0 {
		threads = 1 + d.below(8)
	}
	for range threads {
		s.Programs = append(s.Programs, d.program(1+d.below(3)))
	}
	s.Picks = d.picks(d.below(300))
	return s
}

// event is one that is in form, without Loaded and Stored, mostly of small numbers, over so many cells.
func (d *drawn) event(threads, cells int, number uint64) api.Event {
	kind := []api.EventKind{api.Begin, api.Begin, api.Read, api.Read, api.Read, api.Write, api.Write, api.Moved, api.Locked, api.Locked, api.Committed, api.Committed, api.Stale, api.Aborted, api.Failed, api.Halted}[d.below(16)]
	e := api.Event{Thread: d.below(threads), Kind: kind}
	switch kind {
	case api.Begin, api.Moved:
		e.Word = 2 * number
	case api.Committed:
		e.Word = number + uint64(d.below(3)) - 1
	case api.Read, api.Write:
		e.Addr, e.Word, e.Own = uint64(d.below(cells)), uint64(d.below(3)), kind == api.Read && d.below(4) == 0
	case api.Failed:
		e.Err = api.Errno(4 + d.below(3))
	}
	return e
}

// history is one that can be, of up to so many events, without Loaded and Stored, over so many cells.
func (d *drawn) history(most, threads, cells int) []api.Event {
	var h []api.Event
	number := uint64(0)
	for range most * 6 {
		e := d.event(threads, cells, number)
		// What ends a thread, or an attempt without a commit, would else leave little to be seen; and one thread's attempts are to go on while others commit.
		ends := e.Kind == api.Stale || e.Kind == api.Aborted
		if len(h) == most || (e.Kind == api.Halted || e.Kind == api.Failed) && d.below(20) > 0 || ends && d.below(3) > 0 || e.Thread == 1 && (ends || e.Kind == api.Committed) && d.below(10) > 0 {
			continue
		}
		with := append(h[:len(h):len(h)], e)
		if events.Check(with).Err != api.OK {
			continue
		}
		if h = with; e.Kind == api.Committed && e.Word > number {
			number = e.Word
		}
	}
	return h
}

// first is the first words of so many cells.
func (d *drawn) first(cells int) []uint64 {
	var l []uint64
	for range cells {
		l = append(l, uint64(d.below(3)))
	}
	return l
}

// changed is a history with the word of one of its Reads that are not Own changed, which leaves it one that can be; false, if it has none.
func (d *drawn) changed(h []api.Event) ([]api.Event, bool) {
	var places []int
	for at, e := range h {
		if e.Kind == api.Read && !e.Own {
			places = append(places, at)
		}
	}
	if len(places) == 0 {
		return nil, false
	}
	h = slices.Clone(h)
	h[places[d.below(len(places))]].Word = uint64(d.below(5))
	return h, true
}

// agrees holds all five calls against the model, Together of what each attempt has read and of drawn words.
func (d *drawn) agrees(t *testing.T, first []uint64, h []api.Event) {
	t.Helper()
	sights(t, first, h, modelSights(first, h)...)
	checks(t, first, h, modelCheck(first, h))
	for n, want := range modelStates(first, h) {
		isBehind(t, first, h, n, want...)
	}
	for begin, e := range h {
		if e.Kind == api.Begin {
			words := modelRead(h, begin)
			standTogether(t, first, h, words, modelTogether(first, h, words...)...)
		}
	}
	for count := range 4 {
		var words []api.Cell
		for range count {
			words = append(words, api.Cell{Addr: uint64(d.below(len(first))), Word: uint64(d.below(3))})
		}
		standTogether(t, first, h, words, modelTogether(first, h, words...)...)
	}
	neverStood(t, first, h, modelNever(first, h)...)
}

// sights asks for what a history's attempts have seen.
func sights(t *testing.T, first []uint64, h []api.Event, want ...api.Sight) {
	t.Helper()
	if got, odd := Sights(first, h); odd != fine || !slices.Equal(got, want) {
		t.Errorf("Sights of %v, %s answers %+v, %v, not %+v", first[:min(len(first), 20)], asText(h), got, odd, want)
	}
}

// checks asks for the first attempt that has seen what never stood together.
func checks(t *testing.T, first []uint64, h []api.Event, want int) {
	t.Helper()
	if got, odd := Check(first, h); odd != fine || got != want {
		t.Errorf("Check of %v, %s answers %d, %v, not %d", first[:min(len(first), 20)], asText(h), got, odd, want)
	}
}

// isBehind asks for the cells behind a number.
func isBehind(t *testing.T, first []uint64, h []api.Event, n int, want ...uint64) {
	t.Helper()
	if got, odd := Behind(first, h, n); odd != fine || !slices.Equal(got, want) {
		t.Errorf("Behind of %v, %s, %d answers %v, %v, not %v", first[:min(len(first), 20)], asText(h), n, got[:min(len(got), 20)], odd, want[:min(len(want), 20)])
	}
}

// standTogether asks at which numbers words stood together.
func standTogether(t *testing.T, first []uint64, h []api.Event, words []api.Cell, want ...int) {
	t.Helper()
	if got, odd := Together(first, h, words...); odd != fine || !slices.Equal(got, want) {
		t.Errorf("Together of %v, %s, %v answers %v, %v, not %v", first[:min(len(first), 20)], asText(h), words, got, odd, want)
	}
}

// neverStood asks for the words that were read and never stood.
func neverStood(t *testing.T, first []uint64, h []api.Event, want ...api.Cell) {
	t.Helper()
	if got, odd := Never(first, h); odd != fine || !slices.Equal(got, want) {
		t.Errorf("Never of %v, %s answers %v, %v, not %v", first[:min(len(first), 20)], asText(h), got, odd, want)
	}
}
