package check

import (
	"math"
	"slices"
	"testing"

	"parley/api"
)

// follows asks Followers for places.
func follows(t *testing.T, p []api.Instr, at int, want ...int) {
	t.Helper()
	if l, err := Followers(p, at); !slices.Equal(l, want) || err != api.OK {
		t.Fatalf("Followers(%v, %d) answers %v, %v, not %v", p[:min(len(p), 9)], at, l, err, want)
	}
}

// P10.3: at each operation, at the first place, one between, and the last one.
func TestFollowersOfAll(t *testing.T) {
	for _, row := range table {
		i := api.Instr{Op: row.op}
		if row.num {
			i.N = 7
		}
		for _, n := range []int{1, 2, 3, 300} {
			p := many(i, n)
			for _, at := range []int{0, n / 2, n - 1} {
				switch row.op {
				case api.OpJump, api.OpAbort:
					follows(t, p, at, 7)
				case api.OpZero:
					l := []int{at + 1, 7}
					slices.Sort(l)
					follows(t, p, at, slices.Compact(l)...)
				case api.OpHalt:
					follows(t, p, at)
				default:
					follows(t, p, at, at+1)
				}
			}
		}
	}
}

// P10.3: targets behind, at the place itself, ahead, past the end, and so great that they are told as 2^31 - 1.
func TestFollowersOfTargets(t *testing.T) {
	for _, x := range []struct {
		n    uint64
		want int
	}{
		{0, 0}, {1, 1}, {2, 2}, {3, 3}, {4, 4}, {5, 5}, {256, 256}, {1<<31 - 2, 1<<31 - 2}, {1<<31 - 1, 1<<31 - 1}, {1 << 31, 1<<31 - 1}, {1<<31 + 1, 1<<31 - 1},
		{1<<32 - 1, 1<<31 - 1}, {1 << 32, 1<<31 - 1}, {1<<32 + 1, 1<<31 - 1}, {1<<63 - 1, 1<<31 - 1}, {1 << 63, 1<<31 - 1}, {1<<63 + 1, 1<<31 - 1}, {top - 1, 1<<31 - 1}, {top, 1<<31 - 1},
	} {
		for at := range 4 {
			p := many(halt, 4)
			p[at] = jump(x.n)
			follows(t, p, at, x.want)
			p[at] = abort(x.n)
			follows(t, p, at, x.want)
			p[at] = zero(x.n)
			switch {
			case x.want == at+1:
				follows(t, p, at, at+1)
			case x.want < at+1:
				follows(t, p, at, x.want, at+1)
			default:
				follows(t, p, at, at+1, x.want)
			}
		}
	}
}

// P10.3: what is no place.
func TestFollowersOfNoPlace(t *testing.T) {
	for _, p := range [][]api.Instr{nil, {}, program(halt), program(jump(5), halt), many(halt, 300), program(none)} {
		for _, at := range []int{-1, -2, math.MinInt, len(p), len(p) + 1, math.MaxInt, 1 << 32} {
			if l, err := Followers(p, at); l != nil || err != api.ErrArg {
				t.Errorf("Followers of %d instructions at %d answers %v, %v", len(p), at, l, err)
			}
		}
		for at := range p {
			if _, err := Followers(p, at); err != api.OK {
				t.Errorf("Followers of %d instructions at %d answers %v", len(p), at, err)
			}
		}
	}
	if l, err := Followers(program(halt, halt)[:1], 1); l != nil || err != api.ErrArg {
		t.Errorf("Followers looks behind the last place: %v, %v", l, err)
	}
}

// P10.3: of programs that may not run, and of instructions that are not in form.
func TestFollowersOfWrong(t *testing.T) {
	follows(t, program(get, halt), 0, 1)
	follows(t, program(begin, begin), 1, 2)
	follows(t, program(one), 0, 1)
	follows(t, many(one, 1000), 999, 1000)
	follows(t, program(none, halt), 0, 1)
	follows(t, program(halt, none), 1, 2)
	follows(t, program(none, halt), 1)
	for _, i := range unformed() {
		p := program(one, i, halt)
		var want []int
		for next := range 4 {
			if modelFollows(i, 1, next) {
				want = append(want, next)
			}
		}
		if i.N == top && (i.Op == api.OpZero || i.Op == api.OpJump || i.Op == api.OpAbort) {
			t.Fatalf("%v has a target of its own", i)
		}
		follows(t, p, 1, want...)
	}
	follows(t, program(api.Instr{Op: api.OpJump, A: 1, N: 3}), 0, 3)
	follows(t, program(api.Instr{Op: api.OpHalt, N: 3}), 0)
	follows(t, program(api.Instr{Op: api.OpGet, A: -1, N: 3}), 0, 1)
}

// P10.6: on each way of a program that may run begins, and ends or aborts, come by turns, a begin first; halt is outside; where a way can't go on there is a halt; modes are known from one way alone.
func TestWays(t *testing.T) {
	d := drawn(20)
	halts, rounds := 0, 0
	for range 4000 {
		p := d.running(1 + d.below(24))
		modes, err := Modes(p)
		if err != api.OK {
			t.Fatalf("Modes(%v) answers %v", p, err)
		}
		at, isInside := 0, false
		for steps := 0; ; steps++ {
			want := api.ModeOutside
			if isInside {
				want = api.ModeInside
			}
			if modes[at] != want {
				t.Fatalf("Modes(%v) answers %v: a way leads to %d with the mode %v", p, modes, at, want)
			}
			switch op := p[at].Op; {
			case op == api.OpBegin && isInside, (op == api.OpEnd || op == api.OpAbort) && !isInside, op == api.OpHalt && isInside:
				t.Fatalf("%v may run, but a way comes to %d where it may not stand", p, at)
			case op == api.OpBegin:
				isInside = true
			case op == api.OpEnd, op == api.OpAbort:
				isInside = false
			}
			l, _ := Followers(p, at)
			if len(l) == 0 {
				if p[at].Op != api.OpHalt {
					t.Fatalf("a way of %v ends at %d", p, at)
				}
				halts++
				break
			}
			if steps > 200 {
				rounds++
				break
			}
			at = l[d.below(len(l))]
			if at >= len(p) {
				t.Fatalf("a way of %v leads to no place", p)
			}
		}
	}
	if halts < 500 || rounds < 500 {
		t.Errorf("%d ways that ended and %d that did not were gone along", halts, rounds)
	}
}

// P10.6: where no way leads there may be anything that is in form, with targets that are places; and so behind the last instruction, up to MaxCode; the modes ahead of it stay.
func TestFurther(t *testing.T) {
	d := drawn(30)
	for range 300 {
		p := d.running(1 + d.below(12))
		modes, _ := Modes(p)
		for _, row := range table {
			for _, n := range []uint64{0, uint64(len(p)) - 1, uint64(len(p)), uint64(len(p)) + 1, top} {
				i := d.formed(row.op, n)
				longer := append(p[:len(p):len(p)], i)
				if row.target && n > uint64(len(p)) {
					refused(t, longer, len(p), api.ErrTarget)
					continue
				}
				taken(t, longer)
				if l, _ := Modes(longer); !slices.Equal(l, append(slices.Clone(modes), api.ModeNever)) {
					t.Fatalf("Modes(%v) answers %v; without the last one %v", longer, l, modes)
				}
			}
		}
		i := unformed()[d.below(len(unformed()))]
		refused(t, append(p[:len(p):len(p)], i), len(p), api.ErrForm)
		for at, m := range modes { // all that no way leads to may be changed
			if m == api.ModeNever {
				other := slices.Clone(p)
				other[at] = d.formed(api.Op(1+d.below(17)), uint64(d.below(len(p))))
				taken(t, other)
				if l, _ := Modes(other); !slices.Equal(l, modes) {
					t.Fatalf("Modes(%v) answers %v, not %v", other, l, modes)
				}
			}
		}
	}
	p := program(begin, get, end, halt)
	for len(p) < api.MaxCode {
		p = append(p, d.formed(api.Op(1+d.below(17)), uint64(d.below(len(p)+1))))
		if w := Program(p); w != (api.Wrong{At: -1}) {
			t.Fatalf("Program of %d instructions answers %v", len(p), w)
		}
	}
	refused(t, append(p, halt), -1, api.ErrCount)
}

// P10.7: what is handed in stays, spare room included.
func TestHandedInStays(t *testing.T) {
	d := drawn(40)
	for range 500 {
		room := append(d.running(1+d.below(10)), none, jump(3), halt)
		p := room[:len(room)-3]
		if d.below(2) == 0 {
			copy(p, d.changed(p))
		}
		kept := slices.Clone(room)
		want := model(p)
		tells(t, p, want)
		for at := range p {
			if l, _ := Followers(p, at); l != nil {
				spoil(l)
			}
		}
		lists := [][]api.Instr{p, p[:0], p}[:2]
		s := api.Script{Cells: 2, First: []uint64{5, 6, 7}[:2], Programs: lists, Picks: []uint32{1, 2, 3}[:1]}
		Script(s)
		All(lists...)
		if !slices.Equal(room, kept) || !slices.Equal(s.First[:3], []uint64{5, 6, 7}) || !slices.Equal(s.Picks[:3], []uint32{1, 2, 3}) || len(lists[:3][2]) != len(p) || len(lists[1]) != 0 {
			t.Fatalf("%v has changed to %v", kept, room)
		}
	}
}

// P10.7: each answer is memory of its own, each list in it, too.
func TestOwnMemory(t *testing.T) {
	p := program(begin, zero(6), zero(8), end, halt, halt, abort(5), halt, end, begin, zero(12), abort(0), end, halt)
	modes, _ := Modes(p)
	spans, _ := Spans(p)
	want := model(p)
	m, _ := Modes(p)
	spoil(m)
	for n := range spans {
		s, _ := Spans(p)
		spoil(s[n].Ends)
		if !slices.Equal(s[n].Aborts, want.spans[n].Aborts) || !slices.Equal(s[1-n].Ends, want.spans[1-n].Ends) || !slices.Equal(s[1-n].Aborts, want.spans[1-n].Aborts) {
			t.Fatalf("lists of one answer share memory: %v", s)
		}
		s, _ = Spans(p)
		spoil(s[n].Aborts)
		if !slices.Equal(s[n].Ends, want.spans[n].Ends) {
			t.Fatalf("lists of one answer share memory: %v", s)
		}
		spoil(s)
	}
	if !slices.Equal(modes, want.modes) || !sameSpans(spans, want.spans) {
		t.Fatalf("two answers share memory: %v, %v", modes, spans)
	}
	a, _ := Followers(p, 1)
	b, _ := Followers(p, 1)
	spoil(a)
	if !slices.Equal(b, []int{2, 6}) {
		t.Fatalf("two answers share memory: %v", b)
	}
}
