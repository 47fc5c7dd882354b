package check

import (
	"math"
	"testing"

	"parley/api"
)

// script is one that may be, with that many cells, first words, programs and picks.
func script(cells, first, programs, picks int) api.Script {
	s := api.Script{Cells: cells, First: make([]uint64, first), Picks: make([]uint32, picks)}
	for range programs {
		s.Programs = append(s.Programs, program(halt))
	}
	return s
}

// P10.4: how many there may be of all things.
func TestScriptMeasures(t *testing.T) {
	no, fine := api.Wrong{At: -1, Err: api.ErrScript}, api.Wrong{At: -1}
	for _, x := range []struct {
		cells, first, programs, picks int
		want                          api.Wrong
	}{
		{1, 0, 1, 0, fine}, {65536, 0, 1, 0, fine}, {65535, 0, 1, 0, fine},
		{0, 0, 1, 0, no}, {-1, 0, 1, 0, no}, {math.MinInt, 0, 1, 0, no}, {65537, 0, 1, 0, no}, {math.MaxInt, 0, 1, 0, no}, {1 << 32, 0, 1, 0, no},
		{1, 1, 1, 0, fine}, {1, 2, 1, 0, no}, {3, 2, 1, 0, fine}, {3, 3, 1, 0, fine}, {3, 4, 1, 0, no}, {0, 0, 1, 0, no}, {-1, 1, 1, 0, no},
		{65536, 65535, 1, 0, fine}, {65536, 65536, 1, 0, fine}, {65536, 65537, 1, 0, no}, {65535, 65536, 1, 0, no}, {65537, 65537, 1, 0, no},
		{1, 0, 0, 0, no}, {1, 0, 2, 0, fine}, {1, 0, 7, 0, fine}, {1, 0, 8, 0, fine}, {1, 0, 9, 0, no}, {1, 0, 1 << 16, 0, no},
		{1, 0, 1, 1, fine}, {1, 0, 1, 1<<20 - 1, fine}, {1, 0, 1, 1 << 20, fine}, {1, 0, 1, 1<<20 + 1, no}, {1, 0, 1, 1 << 21, no},
		{65536, 65536, 8, 1 << 20, fine}, {0, 1, 0, 0, no}, {0, 0, 0, 0, no}, {65537, 0, 9, 1<<20 + 1, no},
	} {
		s := script(x.cells, x.first, x.programs, x.picks)
		if w := Script(s); w != x.want {
			t.Errorf("Script of %d cells, %d first words, %d programs, %d picks answers %v, not %v", x.cells, x.first, x.programs, x.picks, w, x.want)
		}
		if x.want == no && x.programs > 0 { // told ahead of a program that may not run
			s.Programs[0] = nil
			if w := Script(s); w != no {
				t.Errorf("Script of %d cells, %d first words, %d programs, %d picks and a wrong program answers %v, not %v", x.cells, x.first, x.programs, x.picks, w, no)
			}
		}
	}
	if w := Script(api.Script{}); w != no {
		t.Errorf("Script of nothing answers %v", w)
	}
	if w := Script(api.Script{Cells: 1, First: []uint64{}, Programs: [][]api.Instr{}, Picks: []uint32{}}); w != no {
		t.Errorf("Script of an empty list of programs answers %v", w)
	}
	s := script(1, 1, 1, 3)
	s.First[0], s.Picks[0], s.Picks[2] = top, math.MaxUint32, 99 // words and picks may be any
	if w := Script(s); w != fine {
		t.Errorf("Script with great words answers %v", w)
	}
}

// wrongs are programs that may not run, and what is wrong with them.
func wrongs() ([][]api.Instr, []api.Wrong) {
	return [][]api.Instr{nil, many(halt, 257), program(halt, none), program(jump(1)), program(one, one), program(begin, halt)}, []api.Wrong{
		{At: -1, Err: api.ErrCount}, {At: -1, Err: api.ErrCount}, {At: 1, Err: api.ErrForm}, {At: 0, Err: api.ErrTarget}, {At: 1, Err: api.ErrBehind}, {At: 1, Err: api.ErrMode}}
}

// P10.4, P10.5: one program of several that may not run, and two of them.
func TestOneOfSeveral(t *testing.T) {
	list, said := wrongs()
	for n := 1; n <= api.MaxThreads; n++ {
		for k, p := range list {
			for at := range n {
				s := script(4, 2, n, 2)
				s.Programs[at] = p
				asks(t, s, at, said[k])
				for behind := at + 1; behind < n; behind++ {
					for _, other := range list {
						s.Programs[behind] = other
						asks(t, s, at, said[k])
					}
					s.Programs[behind] = program(halt)
				}
			}
		}
		asks(t, script(4, 2, n, 2), -1, api.Wrong{At: -1})
	}
}

// asks asks Script and All for the first wrong program.
func asks(t *testing.T, s api.Script, at int, said api.Wrong) {
	t.Helper()
	if n, w := All(s.Programs...); n != at || w != said {
		t.Fatalf("All(%v) answers %d, %v, not %d, %v", s.Programs, n, w, at, said)
	}
	want := api.Wrong{At: at}
	if said.Err != api.OK {
		want.Err = api.ErrScript
	}
	if w := Script(s); w != want {
		t.Fatalf("Script with %v answers %v, not %v", s.Programs, w, want)
	}
}

// P10.5: of none, of one, of several and of many.
func TestAll(t *testing.T) {
	fine := api.Wrong{At: -1}
	is := func(what string, at int, said api.Wrong, programs ...[]api.Instr) {
		t.Helper()
		if n, w := All(programs...); n != at || w != said {
			t.Errorf("All of %s answers %d, %v, not %d, %v", what, n, w, at, said)
		}
	}
	ok := program(halt)
	is("none", -1, fine)
	is("an empty list", -1, fine, [][]api.Instr{}...)
	is("one", -1, fine, ok)
	is("several", -1, fine, ok, program(jump(0)), program(begin, end, halt))
	list, said := wrongs()
	for k, p := range list {
		is("one wrong one", 0, said[k], p)
		is("a wrong one behind others", 2, said[k], ok, ok, p)
		is("two wrong ones", 1, said[k], ok, p, ok, program(begin, halt))
		is("the same one twice", 1, said[k], ok, p, p)
	}
	lots := make([][]api.Instr, 1000)
	for n := range lots {
		lots[n] = ok
	}
	is("more than a script may have", -1, fine, lots...)
	lots[999] = program(get, halt)
	is("more than a script may have, the last one wrong", 999, api.Wrong{At: 0, Err: api.ErrMode}, lots...)
}
