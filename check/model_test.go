package check

import (
	"math"
	"slices"
	"testing"

	"parley/api"
)

const top = math.MaxUint64

// row is an operation: how many registers it has, whether a number stands behind these, whether that is a target, where it may stand.
type row struct {
	op              api.Op
	regs            int
	num, target     bool
	outside, inside bool
}

// table is the operations by their numbers.
var table = []row{
	{1, 1, true, false, true, true}, {2, 2, false, false, true, true}, {3, 3, false, false, true, true},
	{4, 3, false, false, true, true}, {5, 3, false, false, true, true}, {6, 3, false, false, true, true},
	{7, 3, false, false, true, true}, {8, 0, true, true, true, true}, {9, 1, true, true, true, true},
	{10, 2, false, false, true, false}, {11, 2, false, false, true, false}, {12, 0, false, false, true, false},
	{13, 2, false, false, false, true}, {14, 2, false, false, false, true}, {15, 0, false, false, false, true},
	{16, 0, true, true, false, true}, {17, 0, false, false, true, false},
}

func jump(n uint64) api.Instr  { return api.Instr{Op: api.OpJump, N: n} }
func zero(n uint64) api.Instr  { return api.Instr{Op: api.OpZero, N: n} }
func abort(n uint64) api.Instr { return api.Instr{Op: api.OpAbort, N: n} }

var (
	one   = api.Instr{Op: api.OpConst, N: 1}
	load  = api.Instr{Op: api.OpLoad}
	store = api.Instr{Op: api.OpStore}
	begin = api.Instr{Op: api.OpBegin}
	get   = api.Instr{Op: api.OpGet}
	put   = api.Instr{Op: api.OpPut}
	end   = api.Instr{Op: api.OpEnd}
	halt  = api.Instr{Op: api.OpHalt}
	none  = api.Instr{Op: 99}
)

// program writes a program short.
func program(l ...api.Instr) []api.Instr { return l }

// many is an instruction so many times.
func many(i api.Instr, n int) []api.Instr { return slices.Repeat([]api.Instr{i}, n) }

// unformed are instructions that are not in form.
func unformed() []api.Instr {
	l := []api.Instr{{}, {Op: 18}, {Op: 99}, {Op: -1}, {Op: math.MaxInt}, {Op: math.MinInt}, {N: 1}, {Op: 1<<32 + 1}}
	for _, row := range table {
		for at := range 3 {
			for _, n := range []int{-1, 8, math.MaxInt, math.MinInt, 1} {
				if n == 1 && at < row.regs {
					continue
				}
				i := api.Instr{Op: row.op}
				*[]*int{&i.A, &i.B, &i.C}[at] = n
				l = append(l, i)
			}
		}
		if !row.num {
			l = append(l, api.Instr{Op: row.op, N: 1}, api.Instr{Op: row.op, N: top})
		}
	}
	return l
}

// isFormed tells whether an instruction is in form.
func isFormed(i api.Instr) bool {
	if i.Op < 1 || i.Op > 17 {
		return false
	}
	r := table[i.Op-1]
	for n, v := range []int{i.A, i.B, i.C} {
		if v < 0 || v > 7 || n >= r.regs && v != 0 {
			return false
		}
	}
	return r.num || i.N == 0
}

// told is all that is said of a program.
type told struct {
	wrong api.Wrong
	modes []api.Mode
	spans []api.Span
	plain bool
}

// modelFollows tells whether a place follows another one.
func modelFollows(i api.Instr, at, next int) bool {
	goesTo, goesOn := false, true
	switch i.Op {
	case api.OpJump, api.OpAbort:
		goesTo, goesOn = true, false
	case api.OpZero:
		goesTo = true
	case api.OpHalt:
		goesOn = false
	}
	return goesTo && uint64(next) == i.N || goesOn && next == at+1
}

// modelWays is, by modes and places, whether a way leads there; the place behind the last one among them. All is looked at again until nothing is new.
func modelWays(p []api.Instr) [3][]bool {
	led := [3][]bool{nil, make([]bool, len(p)+1), make([]bool, len(p)+1)}
	led[api.ModeOutside][0] = true
	for changed := true; changed; {
		changed = false
		for at, i := range p {
			for m := api.ModeOutside; m <= api.ModeInside; m++ {
				if !led[m][at] {
					continue
				}
				after := m
				if i.Op == api.OpBegin {
					after = api.ModeInside
				} else if i.Op == api.OpEnd || i.Op == api.OpAbort {
					after = api.ModeOutside
				}
				for next := range len(p) + 1 {
					if modelFollows(i, at, next) && !led[after][next] {
						led[after][next], changed = true, true
					}
				}
			}
		}
	}
	return led
}

// modelSpan is the block of a begin, out of the table of all pairs of places of which one can be come to from the other: an end and an abort lead nowhere in it.
func modelSpan(p []api.Instr, begin int) api.Span {
	n := len(p)
	ways := make([]bool, n*n)
	for a := range n {
		for b := range n {
			ways[a*n+b] = p[a].Op != api.OpEnd && p[a].Op != api.OpAbort && modelFollows(p[a], a, b)
		}
	}
	for c := range n {
		for a := range n {
			for b := range n {
				ways[a*n+b] = ways[a*n+b] || ways[a*n+c] && ways[c*n+b]
			}
		}
	}
	s := api.Span{Begin: begin}
	for at := range n {
		if ways[begin*n+at] && p[at].Op == api.OpEnd {
			s.Ends = append(s.Ends, at)
		}
		if ways[begin*n+at] && p[at].Op == api.OpAbort {
			s.Aborts = append(s.Aborts, at)
		}
	}
	return s
}

// modelWrong is what is wrong with a program, and how ways lead in it.
func modelWrong(p []api.Instr) (api.Wrong, [3][]bool) {
	var led [3][]bool
	if len(p) == 0 || len(p) > 256 {
		return api.Wrong{At: -1, Err: api.ErrCount}, led
	}
	for at, i := range p {
		if !isFormed(i) {
			return api.Wrong{At: at, Err: api.ErrForm}, led
		}
	}
	for at, i := range p {
		if table[i.Op-1].target && i.N > uint64(len(p))-1 {
			return api.Wrong{At: at, Err: api.ErrTarget}, led
		}
	}
	led = modelWays(p)
	if led[1][len(p)] || led[2][len(p)] {
		return api.Wrong{At: len(p) - 1, Err: api.ErrBehind}, led
	}
	for at, i := range p {
		row, out, in := table[i.Op-1], led[1][at], led[2][at]
		if out && in || out && !row.outside || in && !row.inside {
			return api.Wrong{At: at, Err: api.ErrMode}, led
		}
	}
	return api.Wrong{At: -1}, led
}

// model is all that is to be said of a program.
func model(p []api.Instr) told {
	w, led := modelWrong(p)
	r := told{wrong: w}
	if w.Err != api.OK {
		return r
	}
	for at, i := range p {
		m := api.ModeNever
		if led[1][at] {
			m = api.ModeOutside
		} else if led[2][at] {
			m = api.ModeInside
		}
		r.modes = append(r.modes, m)
		if m != api.ModeNever && i.Op == api.OpBegin {
			r.spans = append(r.spans, modelSpan(p, at))
		}
		r.plain = r.plain || m != api.ModeNever && (i.Op == api.OpLoad || i.Op == api.OpStore)
	}
	return r
}

// sameSpans tells whether two lists of blocks are the same.
func sameSpans(a, b []api.Span) bool {
	return slices.EqualFunc(a, b, func(x, y api.Span) bool {
		return x.Begin == y.Begin && slices.Equal(x.Ends, y.Ends) && slices.Equal(x.Aborts, y.Aborts)
	})
}

// tells asks all that is said of a program; beside an error lists are none.
func tells(t *testing.T, p []api.Instr, want told) {
	t.Helper()
	shown := p[:min(len(p), 20)]
	if w := Program(p); w != want.wrong {
		t.Fatalf("Program(%v) answers %v, not %v", shown, w, want.wrong)
	}
	if l, err := Modes(p); !slices.Equal(l, want.modes) || err != want.wrong.Err || err != api.OK && l != nil {
		t.Fatalf("Modes(%v) answers %v, %v, not %v, %v", shown, l, err, want.modes, want.wrong.Err)
	}
	if l, err := Spans(p); !sameSpans(l, want.spans) || err != want.wrong.Err || err != api.OK && l != nil {
		t.Fatalf("Spans(%v) answers %v, %v, not %v, %v", shown, l, err, want.spans, want.wrong.Err)
	}
	if is, err := Plain(p); is != want.plain || err != want.wrong.Err {
		t.Fatalf("Plain(%v) answers %t, %v, not %t, %v", shown, is, err, want.plain, want.wrong.Err)
	}
}

// refused asks for what is wrong with a program, and for the same error of all that look at it.
func refused(t *testing.T, p []api.Instr, at int, err api.Errno) {
	t.Helper()
	tells(t, p, told{wrong: api.Wrong{At: at, Err: err}})
}

// taken asks for a program that may run, whose modes, blocks and accesses are the model's.
func taken(t *testing.T, p []api.Instr) {
	t.Helper()
	want := model(p)
	if want.wrong != (api.Wrong{At: -1}) {
		t.Fatalf("the model takes %v for wrong: %v", p, want.wrong)
	}
	tells(t, p, want)
}

// drawn is a row of numbers that looks drawn, and is the same each time.
type drawn uint64

func (d *drawn) next() uint64 {
	*d = *d*6364136223846793005 + 1442695040888963407
	return uint64(*d >> 33)
}

// below is a number from 0 to n - 1.
func (d *drawn) below(n int) int { return int(d.next() % uint64(n)) }

// formed is a formed instruction of that operation, with that number, if it has one.
func (d *drawn) formed(op api.Op, n uint64) api.Instr {
	i := api.Instr{Op: op}
	for at, own := range []*int{&i.A, &i.B, &i.C} {
		if at < table[op-1].regs {
			*own = d.below(api.Regs)
		}
	}
	if table[op-1].num {
		i.N = n
	}
	return i
}

// running is a program of n instructions, n above 0, most of which may run: each place is given a mode, and what stands there leads only to places of the mode that it then has.
func (d *drawn) running(n int) []api.Instr {
	p := make([]api.Instr, n)
	mode := make([]api.Mode, n)
	mode[0] = api.ModeOutside
	for at := range p {
		next := api.Mode(1 + d.below(2))
		op := api.Op(1 + d.below(17))
		for last := at == n-1; !d.fits(op, mode[at], last); {
			op = api.Op(1 + d.below(17))
		}
		switch op {
		case api.OpBegin:
			next = api.ModeInside
		case api.OpEnd:
			next = api.ModeOutside
		case api.OpJump, api.OpAbort, api.OpHalt:
		default:
			next = mode[at]
		}
		p[at].Op = op
		if at+1 < n {
			mode[at+1] = next
		}
	}
	for at := range p {
		want := mode[at]
		if p[at].Op == api.OpAbort {
			want = api.ModeOutside
		}
		to := d.below(n)
		for mode[to] != want {
			to = d.below(n)
		}
		p[at] = d.formed(p[at].Op, uint64(to))
	}
	return p
}

// fits tells whether an operation may stand in a mode, at the last place, too, if that is where it is to stand.
func (d *drawn) fits(op api.Op, m api.Mode, last bool) bool {
	if last && op != api.OpJump && op != api.OpAbort && op != api.OpHalt {
		return false
	}
	if m == api.ModeInside {
		return table[op-1].inside
	}
	return table[op-1].outside
}

// changed is the program with some of its places changed: to other operations, other targets, or what is not in form.
func (d *drawn) changed(p []api.Instr) []api.Instr {
	p = slices.Clone(p)
	for range 1 + d.below(3) {
		at := d.below(len(p))
		switch d.below(6) {
		case 0:
			p[at] = unformed()[d.below(len(unformed()))]
		case 1, 2:
			p[at] = d.formed([]api.Op{api.OpJump, api.OpZero, api.OpAbort}[d.below(3)], uint64(len(p)+d.below(3)-1))
		case 3:
			p[at] = d.formed(api.Op(1+d.below(17)), uint64(d.below(len(p)+1)))
		default:
			p[at] = d.formed(api.Op(1+d.below(17)), uint64(d.below(len(p))))
		}
	}
	return p
}

// spoil overwrites a list, spare room included.
func spoil[T any](l []T) {
	clear(l[:cap(l)])
}
