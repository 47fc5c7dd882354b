package explore

import (
	"math"
	"slices"
	"testing"

	"parley/api"
	"parley/sched"
)

// run is a run of a script that has done no pick.
func run(t *testing.T, s api.Script) *sched.Sched {
	t.Helper()
	d, err := sched.New(s)
	if err != api.OK {
		t.Fatal(err)
	}
	return d
}

// endOf is what a run at rest has come to.
func endOf(o api.Outcome, picks []uint32) api.End {
	return (&modelState{outcome: o, picks: picks}).end()
}

// comesBy asks layer 12 whether an end's Picks come to just that end, and not ahead of the last one.
func comesBy(t *testing.T, s api.Script, e api.End) {
	t.Helper()
	d := run(t, s)
	for n, pick := range e.Picks {
		if d.AtRest() || int(pick) >= len(s.Programs) {
			t.Errorf("%s: it is at rest ahead of the pick %d of %v", asText(s), n, e.Picks)
		}
		d.Pick(pick)
	}
	if got := endOf(d.Outcome(), e.Picks); !d.AtRest() || !sameEnd(got, e) {
		t.Errorf("%s: %v comes to %v, not to %v", asText(s), e.Picks, got, e)
	}
	s.Picks = e.Picks
	if o, err := sched.Run(s); err != api.OK || !sameEnd(endOf(o, e.Picks), e) {
		t.Errorf("%s: Run with %v is another one", asText(s), e.Picks)
	}
}

// P19.5, P0.7: what layer 12 ends with, by whatever picks, is among Ends; an end's Picks come to it.
func TestPicksComeToEnds(t *testing.T) {
	d := drawn(11)
	scripts, rests, several := 0, 0, 0
	for _, s := range drawnScripts() {
		l, err := Ends(s)
		if err != api.OK {
			t.Fatal(err)
		}
		scripts++
		for _, e := range l {
			comesBy(t, s, e)
		}
		seen := map[int]int{}
		for range 40 {
			r := run(t, s)
			r.Picks(d.picks(d.below(40))...)
			r.Turns(60)
			if !r.AtRest() {
				continue
			}
			got := endOf(r.Outcome(), nil)
			at := slices.IndexFunc(l, func(e api.End) bool { return slices.Equal(told(e), told(got)) })
			if at < 0 {
				t.Fatalf("%s: %v is not among %v", asText(s), got, l)
			}
			seen[at]++
			rests++
		}
		if len(seen) > 1 {
			several++
		}
		if t.Failed() {
			return
		}
	}
	if scripts < 800 || rests < 10000 || several < 80 {
		t.Errorf("%d scripts, %d rests, %d with several ends", scripts, rests, several)
	}
}

// P0.7: all picks of a script whose longest run has few steps, one by one: their ends are just those that Ends tells.
func TestAllPicksOneByOne(t *testing.T) {
	for _, s := range []api.Script{
		script(1, nil, "const 0 1 | store 0 1 | load 2 1 | halt", "const 0 2 | store 0 1 | load 2 1 | halt"),
		script(2, []uint64{4}, "load 0 1 | const 2 1 | store 0 2 | halt", "const 0 7 | store 0 1 | load 3 0 | halt"),
		script(1, []uint64{1}, "load 0 7 | add 0 0 0 | store 0 7 | halt", "load 0 7 | add 0 0 0 | store 0 7 | halt", "store 7 7 | halt"),
		script(2, nil, "begin | get 0 7 | end | halt", "const 0 5 | store 0 7 | store 7 7 | halt"),
		script(1, nil, "load 0 7 | load 1 0 | halt", "const 0 3 | store 0 7 | halt", "load 5 7 | halt"),
	} {
		all := map[string]bool{}
		count := 0
		var walk func(r *sched.Sched)
		walk = func(r *sched.Sched) {
			if r.AtRest() {
				all[full(api.Outcome{Cells: told(endOf(r.Outcome(), nil))})] = true
				count++
				return
			}
			for n, th := range r.Outcome().Threads {
				if th.Status == api.Running {
					c := r.Copy()
					c.Pick(uint32(n))
					walk(c)
				}
			}
		}
		walk(run(t, s))
		l, err := Ends(s)
		for _, e := range l {
			if !all[full(api.Outcome{Cells: told(e)})] {
				t.Errorf("%s: no picks come to %v", asText(s), e)
			}
		}
		if err != api.OK || len(l) != len(all) || len(l) < 2 || count < 30 {
			t.Errorf("%s: Ends tells %d ends of %d, by %d picks", asText(s), len(l), len(all), count)
		}
	}
}

// P19.5: the Distances add up to States; the widest is Wide; Each tells as many; one thread has one end, or goes round.
func TestNumbersFit(t *testing.T) {
	alone := 0
	for _, s := range drawnScripts() {
		f, err := All(s)
		if err != api.OK {
			t.Fatal(err)
		}
		l, _ := Distances(s)
		ends, _ := Ends(s)
		sum := 0
		for _, n := range l {
			sum += n
		}
		each := make([]int, len(l))
		for distance := range Each(s, math.MaxInt) {
			each[distance]++
		}
		if sum != f.States || l[0] != 1 || slices.Max(l) != f.Wide || slices.Min(l) < 1 || !slices.Equal(l, each) || len(ends) > f.Ends || (len(ends) == 0) != (f.Ends == 0) {
			t.Fatalf("%s: %+v, %v, %v, %d ends", asText(s), f, l, each, len(ends))
		}
		if len(s.Programs) > 1 {
			continue
		}
		alone++
		if f.Loops != (len(ends) == 0) || len(ends) > 1 || f.Ends > 1 || f.Wide != 1 || !f.Loops && len(ends[0].Picks) != f.States-1 {
			t.Fatalf("%s: one thread: %+v, %d ends", asText(s), f, len(ends))
		}
	}
	if alone < 100 {
		t.Errorf("%d of one thread", alone)
	}
}

// changed is a script with its programs in another order: the one at n is at to[n] then.
func changed(s api.Script, to []int) api.Script {
	out := s
	out.Programs = make([][]api.Instr, len(s.Programs))
	for n, p := range s.Programs {
		out.Programs[to[n]] = p
	}
	return out
}

// changedEnd is an end of such a script.
func changedEnd(e api.End, to []int) api.End {
	out := api.End{Cells: e.Cells, Status: slices.Clone(e.Status), Errs: slices.Clone(e.Errs), Regs: slices.Clone(e.Regs)}
	for n, m := range to {
		out.Status[m], out.Errs[m], out.Regs[m] = e.Status[n], e.Errs[n], e.Regs[n]
	}
	return out
}

// P19.5: programs in another order have those ends, with the threads changed about.
func TestProgramsInAnotherOrder(t *testing.T) {
	d := drawn(13)
	several := 0
	for _, s := range drawnScripts() {
		f, _ := All(s)
		to := make([]int, len(s.Programs))
		for n := range to {
			to[n] = n
		}
		for n := range to {
			m := d.below(n + 1)
			to[n], to[m] = to[m], to[n]
		}
		other := changed(s, to)
		foundIs(t, other, f)
		l, _ := Ends(s)
		z, _ := Ends(other)
		if len(l) != len(z) {
			t.Fatalf("%s: %d and %d ends", asText(s), len(l), len(z))
		}
		for _, e := range l {
			c := changedEnd(e, to)
			at := slices.IndexFunc(z, func(e api.End) bool { return slices.Equal(told(e), told(c)) })
			if at < 0 || len(z[at].Picks) != len(e.Picks) {
				t.Fatalf("%s: %v is not among %v", asText(s), c, z)
			}
		}
		if t.Failed() {
			return
		}
		if len(l) > 1 {
			several++
		}
	}
	if several < 80 {
		t.Errorf("%d with several ends", several)
	}
}

// P19.5: what is Must is so behind all picks that end.
func TestMustIsSo(t *testing.T) {
	d := drawn(14)
	musts, mays := 0, 0
	for _, s := range drawnScripts() {
		for range 3 {
			r := run(t, s)
			r.Picks(d.picks(d.below(40))...)
			r.Turns(60)
			if !r.AtRest() {
				continue
			}
			cells := r.Outcome().Cells
			from := d.below(len(cells))
			words := slices.Clone(cells[from : from+1+d.below(len(cells)-from)])
			if must, _ := Must(s, uint64(from), words...); must {
				musts++
			} else {
				mays++
			}
			words[d.below(len(words))]++
			mustIs(t, s, false, uint64(from), words...)
			if t.Failed() {
				return
			}
		}
	}
	if musts < 500 || mays < 80 {
		t.Errorf("%d are musts, %d are not", musts, mays)
	}
}
