package explore

import (
	"cmp"
	"encoding/binary"
	"fmt"
	"math"
	"slices"
	"strings"
	"sync"
	"testing"

	"parley/api"
	"parley/check"
	"parley/code"
	"parley/sched"
)

const top = math.MaxUint64

// prog reads a program, its instructions parted by '|'.
func prog(text string) []api.Instr {
	var p []api.Instr
	for line := range strings.SplitSeq(text, "|") {
		i, err := code.Parse(strings.TrimSpace(line))
		if err != api.OK {
			panic("no instruction: " + line)
		}
		p = append(p, i)
	}
	return p
}

// script is a script of so many cells, with these programs and no picks.
func script(cells int, first []uint64, programs ...string) api.Script {
	s := api.Script{Cells: cells, First: first}
	for _, text := range programs {
		s.Programs = append(s.Programs, prog(text))
	}
	return s
}

// asText is how a script stands in a message.
func asText(s api.Script) string {
	var b strings.Builder
	fmt.Fprintf(&b, "%d cells %v", s.Cells, s.First[:min(len(s.First), 20)])
	for _, p := range s.Programs {
		b.WriteString("; ")
		for n, i := range p[:min(len(p), 30)] {
			text, _ := code.Text(i)
			fmt.Fprintf(&b, "%d %s | ", n, text)
		}
	}
	return b.String()
}

// modelState is a state, with the first of the fewest picks that come to it.
type modelState struct {
	run      *sched.Sched
	outcome  api.Outcome
	distance int
	picks    []uint32
	next     []string
}

// isEnd tells whether no thread is Running.
func (s *modelState) isEnd() bool {
	return !slices.ContainsFunc(s.outcome.Threads, func(t api.Thread) bool { return t.Status == api.Running })
}

// model is all states of a script, by texts that have all that they are.
type model struct {
	script api.Script
	states map[string]*modelState
	first  string
	far    int
}

// full is a state's text.
func full(o api.Outcome) string {
	l := append([]uint64{uint64(len(o.Cells)), o.Clock}, o.Cells...)
	for _, t := range o.Threads {
		l = append(l, threadWords(t)...)
	}
	b := make([]byte, 0, 8*len(l))
	for _, word := range l {
		b = binary.LittleEndian.AppendUint64(b, word)
	}
	return string(b)
}

// threadWords is all that a thread is as plain data; TestEveryField asks whether it is.
func threadWords(t api.Thread) []uint64 {
	a := t.Attempt
	l := []uint64{uint64(t.Status), uint64(t.Err), uint64(t.At), uint64(t.Start), uint64(t.Fuel), a.Snapshot, uint64(a.Phase), uint64(a.Then), a.Addr, a.Word, a.Found, uint64(a.At), 0}
	if t.Inside {
		l[len(l)-1] = 1
	}
	l = slices.Concat(l, t.Regs[:], t.Saved[:])
	for _, log := range [][]api.Cell{a.Reads, a.Writes} {
		l = append(l, uint64(len(log)))
		for _, entry := range log {
			l = append(l, entry.Addr, entry.Word)
		}
	}
	return l
}

// modeled goes on by layer 12 alone, from all states of a distance to those of the next, and takes of all picks that lead to one the least: not the ones by which it is found first. It gives up beyond so many states.
func modeled(t *testing.T, s api.Script, most int) (*model, bool) {
	t.Helper()
	s.Picks = nil
	run, err := sched.New(s)
	if err != api.OK {
		t.Fatal(err)
	}
	m := &model{script: s, states: map[string]*modelState{}}
	begin := &modelState{run: run, outcome: run.Outcome()}
	m.first = full(begin.outcome)
	m.states[m.first] = begin
	level := map[string]*modelState{m.first: begin}
	for far := 1; len(level) > 0; far++ {
		next := map[string]*modelState{}
		for _, from := range level {
			for n, thread := range from.outcome.Threads {
				if thread.Status == api.Running {
					m.step(from, uint32(n), far, next)
				}
			}
			from.run = nil
		}
		if len(m.states) > most {
			return nil, false
		}
		m.far, level = far-1, next
	}
	return m, true
}

// step goes one step on from a state, to one that is known or one of the next distance.
func (m *model) step(from *modelState, pick uint32, far int, next map[string]*modelState) {
	run := from.run.Copy()
	run.Pick(pick)
	o := run.Outcome()
	o.Events = nil
	key := full(o)
	from.next = append(from.next, key)
	picks := append(slices.Clone(from.picks), pick)
	switch old := m.states[key]; {
	case old == nil:
		st := &modelState{run: run, outcome: o, distance: far, picks: picks}
		m.states[key], next[key] = st, st
	case old.distance == far && slices.Compare(picks, old.picks) < 0:
		old.picks = picks
	}
}

// found is what All must answer.
func (m *model) found() api.Found {
	f := api.Found{States: len(m.states), Wide: slices.Max(m.distances())}
	for _, st := range m.states {
		if st.isEnd() {
			f.Ends++
		}
	}
	over := map[string]int{} // 1: on the way, 2: done
	var round func(key string) bool
	round = func(key string) bool {
		over[key] = 1
		for _, to := range m.states[key].next {
			if over[to] == 1 || over[to] == 0 && round(to) {
				return true
			}
		}
		over[key] = 2
		return false
	}
	f.Loops = round(m.first)
	return f
}

// distances is what Distances must answer.
func (m *model) distances() []int {
	l := make([]int, m.far+1)
	for _, st := range m.states {
		l[st.distance]++
	}
	return l
}

// end is what is told of an end.
func (st *modelState) end() api.End {
	e := api.End{Cells: st.outcome.Cells, Picks: st.picks}
	for _, t := range st.outcome.Threads {
		e.Status = append(e.Status, t.Status)
		e.Errs = append(e.Errs, t.Err)
		e.Regs = append(e.Regs, slices.Clone(t.Regs[:]))
	}
	return e
}

// told is what Ends puts in order: all of it but the picks.
func told(e api.End) []uint64 {
	l := slices.Clone(e.Cells)
	for _, status := range e.Status {
		l = append(l, uint64(status))
	}
	for _, err := range e.Errs {
		l = append(l, uint64(err))
	}
	return append(l, slices.Concat(e.Regs...)...)
}

// fewer puts picks in order: the fewest, of as many the first.
func fewer(a, b []uint32) int {
	return cmp.Or(cmp.Compare(len(a), len(b)), slices.Compare(a, b))
}

// ends is what Ends must answer.
func (m *model) ends() []api.End {
	best := map[string]api.End{}
	for _, st := range m.states {
		if !st.isEnd() {
			continue
		}
		e := st.end()
		key := fmt.Sprint(told(e))
		if old, has := best[key]; !has || fewer(e.Picks, old.Picks) < 0 {
			best[key] = e
		}
	}
	var l []api.End
	for _, e := range best {
		l = append(l, e)
	}
	slices.SortFunc(l, func(a, b api.End) int { return slices.Compare(told(a), told(b)) })
	return l
}

// picks is what Picks must answer.
func (m *model) picks(cells ...uint64) ([]uint32, bool) {
	var best []uint32
	for _, e := range m.ends() {
		if len(cells) <= len(e.Cells) && slices.Equal(e.Cells[:len(cells)], cells) && (best == nil || fewer(e.Picks, best) < 0) {
			best = e.Picks
		}
	}
	return best, best != nil
}

// must is what Must must answer.
func (m *model) must(from uint64, words ...uint64) bool {
	for n := range words {
		if at := from + uint64(n); at >= uint64(m.script.Cells) || at < from {
			return false
		}
	}
	for _, e := range m.ends() {
		if len(words) > 0 && !slices.Equal(e.Cells[from:from+uint64(len(words))], words) {
			return false
		}
	}
	return true
}

// shown is what Each tells of a state.
type shown struct {
	distance int
	cells    []uint64
}

// each is what Each must tell.
func (m *model) each(most int) []shown {
	var l []shown
	for _, st := range m.states {
		if st.distance <= most {
			l = append(l, shown{st.distance, st.outcome.Cells})
		}
	}
	slices.SortFunc(l, func(a, b shown) int {
		return cmp.Or(cmp.Compare(a.distance, b.distance), slices.Compare(a.cells, b.cells))
	})
	return l
}

// sameEnd tells whether two ends are the same.
func sameEnd(a, b api.End) bool {
	return slices.Equal(a.Cells, b.Cells) && slices.Equal(a.Status, b.Status) && slices.Equal(a.Errs, b.Errs) && slices.EqualFunc(a.Regs, b.Regs, slices.Equal[[]uint64]) && slices.Equal(a.Picks, b.Picks)
}

// foundIs asks for All.
func foundIs(t *testing.T, s api.Script, want api.Found) {
	t.Helper()
	if got, err := All(s); err != api.OK || got != want {
		t.Errorf("%s: All answers %+v, %v, not %+v", asText(s), got, err, want)
	}
}

// endsAre asks for Ends.
func endsAre(t *testing.T, s api.Script, want ...api.End) {
	t.Helper()
	if got, err := Ends(s); err != api.OK || !slices.EqualFunc(got, want, sameEnd) {
		t.Errorf("%s: Ends answers\n%v, %v, not\n%v", asText(s), got, err, want)
	}
}

// picksAre asks for Picks with these cells; nil: there are none.
func picksAre(t *testing.T, s api.Script, cells []uint64, want []uint32) {
	t.Helper()
	if got, has, err := Picks(s, cells...); err != api.OK || has != (want != nil) || !slices.Equal(got, want) || !has && got != nil {
		t.Errorf("%s: Picks of %v answers %v, %v, %v, not %v", asText(s), cells, got, has, err, want)
	}
}

// mustIs asks for Must.
func mustIs(t *testing.T, s api.Script, want bool, from uint64, words ...uint64) {
	t.Helper()
	if got, err := Must(s, from, words...); err != api.OK || got != want {
		t.Errorf("%s: Must of %d, %v answers %v, %v", asText(s), from, words, got, err)
	}
}

// distancesAre asks for Distances.
func distancesAre(t *testing.T, s api.Script, want ...int) {
	t.Helper()
	if got, err := Distances(s); err != api.OK || !slices.Equal(got, want) {
		t.Errorf("%s: Distances answers %v, %v, not %v", asText(s), got, err, want)
	}
}

// walked is all that Each tells.
func walked(s api.Script, most int) []shown {
	var l []shown
	for distance, cells := range Each(s, most) {
		l = append(l, shown{distance, cells})
	}
	return l
}

// eachIs asks for Each.
func eachIs(t *testing.T, s api.Script, most int, want ...shown) {
	t.Helper()
	got := walked(s, most)
	same := func(a, b shown) bool { return a.distance == b.distance && slices.Equal(a.cells, b.cells) }
	if !slices.EqualFunc(got, want, same) {
		t.Errorf("%s: Each up to %d tells %v, not %v", asText(s), most, got, want)
	}
}

// agrees holds all calls against the model, if the script has no more than so many states; whether it has.
func agrees(t *testing.T, s api.Script, most int) (*model, bool) {
	t.Helper()
	m, has := modeled(t, s, most)
	if !has {
		return nil, false
	}
	foundIs(t, s, m.found())
	endsAre(t, s, m.ends()...)
	distancesAre(t, s, m.distances()...)
	eachIs(t, s, m.far/2, m.each(m.far/2)...)
	eachIs(t, s, math.MaxInt, m.each(math.MaxInt)...)
	words := [][]uint64{nil, make([]uint64, s.Cells+1)}
	if l := m.ends(); len(l) > 0 {
		words = append(words, l[len(l)-1].Cells, l[len(l)/2].Cells[:1])
	}
	for n, l := range words {
		picks, _ := m.picks(l...)
		picksAre(t, s, l, picks)
		if from := uint64(n % s.Cells); from < uint64(len(l)) {
			mustIs(t, s, m.must(from, l[from:]...), from, l[from:]...)
		}
	}
	return m, true
}

// drawn is a source of numbers that is the same at each run.
type drawn uint64

func (d *drawn) next() uint64 {
	*d = *d*6364136223846793005 + 1442695040888963407
	return uint64(*d >> 33)
}

func (d *drawn) below(n int) int { return int(d.next() % uint64(n)) }

// op is one of several.
func (d *drawn) op(ops ...api.Op) api.Op { return ops[d.below(len(ops))] }

// instr is an instruction of such an operation, of few registers, small numbers, and targets below length.
func (d *drawn) instr(op api.Op, length int) api.Instr {
	form, _ := code.Info(op)
	i := api.Instr{Op: op}
	for n, r := range []*int{&i.A, &i.B, &i.C} {
		if n < form.Regs {
			*r = 1 + d.below(2)
		}
	}
	if access := op == api.OpLoad || op == api.OpStore || op == api.OpGet || op == api.OpPut; access && d.below(4) > 0 {
		i.B = 0 // a register that stays 0: most accesses are of one cell
	}
	switch {
	case form.Target:
		i.N = uint64(d.below(length))
	case form.Num:
		i.N = uint64(d.below(3))
	}
	return i
}

// body is instructions, some of which are blocks, with targets anywhere.
func (d *drawn) body(length int) []api.Instr {
	p := []api.Instr{d.instr(api.OpConst, length)}
	inside := false
	for range length {
		op := d.op(api.OpConst, api.OpLoad, api.OpLoad, api.OpLoad, api.OpStore, api.OpStore, api.OpStore, api.OpZero, api.OpZero, api.OpBegin, api.OpBegin, api.OpBegin)
		if d.below(25) == 0 {
			op = d.op(api.OpAdd, api.OpJump, api.OpHalt)
		}
		if inside {
			op = d.op(api.OpConst, api.OpGet, api.OpGet, api.OpPut, api.OpPut, api.OpZero, api.OpEnd, api.OpEnd, api.OpAbort)
		}
		inside = (inside || op == api.OpBegin) && op != api.OpEnd && op != api.OpAbort
		p = append(p, d.instr(op, length+1))
	}
	if inside {
		p = append(p, api.Instr{Op: api.OpEnd})
	}
	if d.below(2) == 0 { // ends that differ in less
		p = append(p, prog("const 1 0 | const 2 0")...)
	}
	return append(p, api.Instr{Op: api.OpHalt})
}

// program is a program that may run, of about so many instructions.
func (d *drawn) program(most int) []api.Instr {
	for {
		if p := d.body(1 + most/2 + d.below(most/2)); check.Program(p).Err == api.OK {
			return p
		}
	}
}

// script is a small script, of 1 to 4 threads, mostly 2.
func (d *drawn) script() api.Script {
	s := api.Script{Cells: 1 + d.below(3)}
	for range d.below(s.Cells + 1) {
		s.First = append(s.First, uint64(d.below(3)))
	}
	most := []int{14, 7, 4, 2}
	threads := []int{1, 2, 2, 2, 3, 3, 4}[d.below(7)]
	for range threads {
		s.Programs = append(s.Programs, d.program(most[threads-1]))
	}
	return s
}

// picks draws so many, some of which let one thread go on for a while.
func (d *drawn) picks(count int) []uint32 {
	var l []uint32
	at := uint32(0)
	for range count {
		if d.below(3) > 0 {
			at = uint32(d.next())
		}
		l = append(l, at)
	}
	return l
}

// drawnScripts is scripts of a few thousand states at most, most of them of far fewer, drawn once for all tests.
var drawnScripts = sync.OnceValue(func() []api.Script {
	var l []api.Script
	d := drawn(1)
	for range 1000 {
		s := d.script()
		if f, err := All(s); err == api.OK && f.States <= 3000 {
			l = append(l, s)
		}
	}
	return l
})

// All calls of drawn scripts are as the model says.
func TestDrawnScripts(t *testing.T) {
	var rounds, ends, several, broken, blocks, waits int
	for _, s := range drawnScripts() {
		m, has := agrees(t, s, 500)
		if t.Failed() {
			return
		}
		if !has {
			continue
		}
		f, l := m.found(), m.ends()
		for what, count := range map[*int]bool{&rounds: f.Loops, &ends: f.Ends > 0, &several: len(l) > 1, &waits: f.Loops && f.Ends > 0} {
			if count {
				*what++
			}
		}
		for _, e := range l {
			if slices.Contains(e.Status, api.Broken) {
				broken++
				break
			}
		}
		for _, st := range m.states {
			if st.outcome.Clock > 0 {
				blocks++
				break
			}
		}
	}
	if rounds < 100 || ends < 200 || several < 50 || broken < 50 || blocks < 100 || waits < 30 {
		t.Errorf("%d with rounds, %d with ends, %d with several, %d with broken threads, %d with blocks that write, %d with rounds and ends", rounds, ends, several, broken, blocks, waits)
	}
}
