package check

import (
	"testing"

	"parley/api"
)

// P10.1: how many instructions there may be.
func TestCount(t *testing.T) {
	refused(t, nil, -1, api.ErrCount)
	refused(t, []api.Instr{}, -1, api.ErrCount)
	refused(t, program(halt)[:0], -1, api.ErrCount)
	taken(t, program(halt))
	for _, n := range []int{2, 255, 256} {
		taken(t, many(halt, n))
		taken(t, append(many(one, n-1), halt))
	}
	for _, n := range []int{257, 258, 512, 1 << 16} {
		refused(t, many(halt, n), -1, api.ErrCount)
		refused(t, append(many(one, n-1), none), -1, api.ErrCount)
		refused(t, append(program(jump(top), none), many(one, n-2)...), -1, api.ErrCount)
	}
}

// P10.1: an instruction that is not in form, wherever it stands, also where no way leads.
func TestForm(t *testing.T) {
	for _, i := range unformed() {
		refused(t, program(i), 0, api.ErrForm)
		refused(t, program(i, halt), 0, api.ErrForm)
		refused(t, program(halt, i), 1, api.ErrForm)
		refused(t, program(halt, halt, i, halt), 2, api.ErrForm)
		refused(t, program(one, one, i, halt), 2, api.ErrForm)
		refused(t, program(begin, i, end, halt), 1, api.ErrForm)
		refused(t, program(halt, i, i), 1, api.ErrForm)
		refused(t, append(many(one, 255), i), 255, api.ErrForm)
	}
	for _, row := range table { // in form, the greatest registers and numbers among it
		i := api.Instr{Op: row.op}
		for n, own := range []*int{&i.A, &i.B, &i.C} {
			if n < row.regs {
				*own = 7
			}
		}
		if row.op == api.OpConst {
			i.N = top
		}
		taken(t, program(halt, i))
	}
}

// P10.1: targets at the last place, one past it, and far past it; also where no way leads.
func TestTarget(t *testing.T) {
	for _, of := range []func(uint64) api.Instr{jump, zero, abort} {
		for _, n := range []uint64{2, 3, 4, 255, 256, 257, 1<<31 - 1, 1 << 31, 1<<31 + 1, 1 << 32, 1<<32 + 1, 1<<63 - 1, 1 << 63, 1<<63 + 1, top - 1, top} {
			refused(t, program(of(n), halt), 0, api.ErrTarget)
			refused(t, program(halt, of(n)), 1, api.ErrTarget)
			if n > 2 {
				refused(t, program(halt, of(n), halt), 1, api.ErrTarget)
				refused(t, program(begin, of(n), halt), 1, api.ErrTarget)
				refused(t, program(one, of(n), of(n)), 1, api.ErrTarget)
			}
		}
		refused(t, append(many(halt, 255), of(256)), 255, api.ErrTarget)
		refused(t, append(program(of(256)), many(halt, 255)...), 0, api.ErrTarget)
		for n := range uint64(256) {
			taken(t, append(many(halt, 255), of(n)))
		}
	}
	taken(t, program(jump(1), halt))
	taken(t, program(zero(1), halt))
	taken(t, program(jump(0)))
	taken(t, append(program(jump(255)), many(halt, 255)...))
	taken(t, append(program(zero(255)), many(halt, 255)...))
	taken(t, append(program(begin, abort(255)), many(halt, 254)...))
	taken(t, program(begin, abort(2), halt))
	taken(t, program(begin, abort(0)))
	taken(t, program(api.Instr{Op: api.OpConst, N: top}, halt)) // its number is no target
}

// P10.1: a place to which a way leads and whose follower is no place, for every operation; where no way leads there, all may stand last.
func TestBehind(t *testing.T) {
	for _, row := range table {
		i := api.Instr{Op: row.op}
		goesOn := row.op != api.OpJump && row.op != api.OpAbort && row.op != api.OpHalt
		taken(t, program(halt, i))
		taken(t, program(jump(0), i))
		taken(t, program(jump(1), halt, i))
		taken(t, program(begin, abort(2), halt, i))
		if !goesOn {
			continue
		}
		refused(t, program(i), 0, api.ErrBehind)
		refused(t, program(one, i), 1, api.ErrBehind)
		refused(t, program(begin, i), 1, api.ErrBehind)
		refused(t, program(jump(2), halt, i), 2, api.ErrBehind)
		refused(t, program(zero(2), halt, i), 2, api.ErrBehind)
		refused(t, program(begin, abort(3), halt, i), 3, api.ErrBehind)
		refused(t, append(many(one, 255), i), 255, api.ErrBehind)
		refused(t, append(append(program(jump(255)), many(halt, 254)...), i), 255, api.ErrBehind)
	}
	refused(t, program(zero(0)), 0, api.ErrBehind)
	refused(t, program(one, zero(0)), 1, api.ErrBehind)
	taken(t, program(jump(1), jump(0)))
	taken(t, program(begin, zero(1), abort(0)))
}

// P10.1: a place with one mode, in which its instruction may or may not stand, for every operation.
func TestStanding(t *testing.T) {
	for _, row := range table {
		i := api.Instr{Op: row.op}
		behindOutside := program(one, i, halt)
		behindInside := program(begin, i, end, halt)
		if row.op == api.OpBegin {
			behindOutside = program(one, i, end, halt)
		}
		if row.op == api.OpAbort {
			i.N = 3
			behindInside[1] = i
		}
		if row.target && row.op != api.OpAbort {
			i.N = 2
			behindOutside[1], behindInside[1] = i, i
		}
		if row.op == api.OpEnd {
			behindInside = program(begin, i, halt)
		}
		if row.outside {
			taken(t, behindOutside)
		} else {
			refused(t, program(one, i, halt, halt), 1, api.ErrMode)
			refused(t, program(begin, end, i, halt), 2, api.ErrMode)
			refused(t, program(jump(2), halt, i, halt), 2, api.ErrMode)
			refused(t, program(begin, abort(3), halt, i, halt), 3, api.ErrMode)
		}
		if row.inside {
			taken(t, behindInside)
		} else {
			refused(t, program(begin, i, halt), 1, api.ErrMode)
			refused(t, program(begin, one, i, halt), 2, api.ErrMode)
			refused(t, program(begin, zero(3), abort(4), i, halt), 3, api.ErrMode)
		}
	}
}

// P10.1: a place to which ways lead with both modes, for every operation, those that may stand in both among them.
func TestBothModes(t *testing.T) {
	for _, row := range table {
		i := api.Instr{Op: row.op}
		for ahead := range 4 {
			p := append(many(one, ahead), zero(uint64(ahead+2)), begin, i, halt)
			if row.target {
				p[ahead+2].N = uint64(ahead + 3)
			}
			refused(t, p, ahead+2, api.ErrMode)
		}
	}
	refused(t, program(begin, end, zero(1), halt), 1, api.ErrMode)
	refused(t, program(begin, zero(0), end, halt), 0, api.ErrMode)
	refused(t, program(begin, jump(0)), 0, api.ErrMode)
	refused(t, program(one, begin, jump(0)), 0, api.ErrMode)
	refused(t, program(begin, zero(3), end, one, halt), 3, api.ErrMode)
	refused(t, program(begin, zero(4), get, end, put, zero(1), end, halt), 1, api.ErrMode) // 1 is the first of those to which 4, with both, leads
	refused(t, program(begin, abort(1)), 1, api.ErrMode)
	taken(t, program(begin, abort(0)))
}

// P10.1: of several faults the kind that is named first is told, and of that the first place, in whatever order they stand.
func TestSeveral(t *testing.T) {
	faults := []struct {
		i   api.Instr
		err api.Errno
	}{{none, api.ErrForm}, {jump(9), api.ErrTarget}, {get, api.ErrMode}, {one, api.OK}}
	for a, x := range faults {
		for b, y := range faults {
			for c, z := range faults {
				p := program(x.i, zero(3), y.i, zero(5), z.i, halt)
				want := api.Wrong{At: -1}
				for _, kind := range []int{2, 1, 0} {
					for n, f := range []int{c, b, a} {
						if f == kind {
							want = api.Wrong{At: 4 - 2*n, Err: faults[kind].err}
						}
					}
				}
				tells(t, p, told{wrong: want, modes: model(p).modes, spans: model(p).spans})
				if want.Err == api.ErrMode || want.Err == api.OK { // a way behind the last place is told ahead of modes, and behind all else
					want = api.Wrong{At: 5, Err: api.ErrBehind}
				}
				p[5] = one
				refused(t, p, want.At, want.Err)
			}
		}
	}
	refused(t, program(begin, halt, jump(3)), 2, api.ErrTarget)
	refused(t, program(begin, halt, none), 2, api.ErrForm)
	refused(t, program(get, get, get), 2, api.ErrBehind)
	refused(t, program(get, halt, get), 0, api.ErrMode)
	refused(t, program(zero(3), begin, get, end, halt), 3, api.ErrMode)
	refused(t, program(zero(3), get, get, get, halt), 1, api.ErrMode)
}

// small are the instructions out of which all programs of n places are made: targets go one past the end.
func small(n int) []api.Instr {
	l := program(one, load, begin, get, end, halt, none)
	for to := range uint64(n + 1) {
		l = append(l, jump(to), zero(to), abort(to))
	}
	return l
}

// P10.1, P10.2: all programs of up to four places.
func TestSmall(t *testing.T) {
	var all func(p, of []api.Instr, left int)
	all = func(p, of []api.Instr, left int) {
		if left == 0 {
			tells(t, p, model(p))
			return
		}
		for _, i := range of {
			all(append(p[:len(p):len(p)], i), of, left-1)
		}
	}
	for n := range 5 {
		all(nil, small(n), n)
	}
}

// P10.1, P10.2: programs that may run, drawn, and changed at some places; some of each kind must be among them.
func TestDrawn(t *testing.T) {
	d := drawn(10)
	seen := map[api.Errno]int{}
	for n := range 6000 {
		p := d.running(1 + d.below(2+n%24))
		for range 3 {
			want := model(p)
			tells(t, p, want)
			seen[want.wrong.Err]++
			p = d.changed(p)
		}
	}
	for _, err := range []api.Errno{api.OK, api.ErrForm, api.ErrTarget, api.ErrBehind, api.ErrMode} {
		if seen[err] < 500 {
			t.Errorf("only %d programs of the kind %v were drawn", seen[err], err)
		}
	}
	for range 6 {
		p := d.running(api.MaxCode - d.below(2))
		tells(t, p, model(p))
	}
}

// P10.2: modes, blocks and accesses, written out.
func TestWritten(t *testing.T) {
	for _, x := range []struct {
		p    []api.Instr
		want told
	}{
		{program(begin, zero(5), get, end, halt, put, zero(1), end, halt), told{ // a round, and two ends
			modes: []api.Mode{1, 2, 2, 2, 1, 2, 2, 2, 1}, spans: []api.Span{{Begin: 0, Ends: []int{3, 7}}}}},
		{program(begin, zero(6), zero(8), end, halt, halt, abort(5), halt, end, jump(0)), told{
			modes: []api.Mode{1, 2, 2, 2, 1, 1, 2, 0, 2, 1}, spans: []api.Span{{Begin: 0, Ends: []int{3, 8}, Aborts: []int{6}}}}},
		{program(begin, jump(1)), told{modes: []api.Mode{1, 2}, spans: []api.Span{{Begin: 0}}}},
		{program(begin, zero(1), jump(2)), told{modes: []api.Mode{1, 2, 2}, spans: []api.Span{{Begin: 0}}}},
		{program(zero(3), begin, jump(4), begin, end, halt), told{ // two begins that come to one end
			modes: []api.Mode{1, 1, 2, 1, 2, 1}, spans: []api.Span{{Begin: 1, Ends: []int{4}}, {Begin: 3, Ends: []int{4}}}}},
		{program(begin, end, begin, abort(0)), told{ // what lies behind an end is another block's
			modes: []api.Mode{1, 2, 1, 2}, spans: []api.Span{{Begin: 0, Ends: []int{1}}, {Begin: 2, Aborts: []int{3}}}}},
		{program(jump(3), begin, end, halt), told{modes: []api.Mode{1, 0, 0, 1}}},
		{program(jump(5), begin, end, begin, abort(3), begin, end, halt, end), told{
			modes: []api.Mode{1, 0, 0, 0, 0, 1, 2, 1, 0}, spans: []api.Span{{Begin: 5, Ends: []int{6}}}}},
		{program(load, halt), told{modes: []api.Mode{1, 1}, plain: true}},
		{program(store, halt), told{modes: []api.Mode{1, 1}, plain: true}},
		{program(zero(2), load, halt), told{modes: []api.Mode{1, 1, 1}, plain: true}},
		{program(begin, end, store, jump(0)), told{modes: []api.Mode{1, 2, 1, 1}, spans: []api.Span{{Begin: 0, Ends: []int{1}}}, plain: true}},
		{program(jump(2), load, halt, store), told{modes: []api.Mode{1, 0, 1, 0}}},
		{program(begin, get, put, end, halt, load), told{modes: []api.Mode{1, 2, 2, 2, 1, 0}, spans: []api.Span{{Begin: 0, Ends: []int{3}}}}},
	} {
		x.want.wrong = api.Wrong{At: -1}
		tells(t, x.p, x.want)
		tells(t, x.p, model(x.p))
	}
}
