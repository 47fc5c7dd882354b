package plain

import (
	"slices"
	"testing"

	"parley/api"
)

// doubles is the program p of the chapter's examples.
const doubles = "begin | get 0 1 | add 0 0 0 | put 0 1 | get 2 1 | end | halt"

// The chapter's examples, row by row.
func TestExamples(t *testing.T) {
	var regs [8]uint64
	s, err := Block(prog(doubles), 0, regs, []uint64{5, 6})
	want := api.Stroke{
		Reads:  []api.Entry{{Addr: 0, Word: 5}, {Addr: 0, Word: 10, Own: true}},
		Writes: []api.Cell{{Addr: 0, Word: 10}},
		Regs:   [8]uint64{10, 0, 10},
		At:     6, Kind: api.Committed, Fuel: 5,
	}
	if err != api.OK || !sameStroke(s, want) {
		t.Errorf("%+v, %v", s, err)
	}

	if s, err := Block(prog(doubles), 1, regs, []uint64{5, 6}); err != api.ErrArg || !sameStroke(s, api.Stroke{}) {
		t.Errorf("%+v, %v", s, err)
	}
	if s, err := Block(prog(doubles), 0, regs, nil); err != api.OK || !sameStroke(s, api.Stroke{Kind: api.Failed, Err: api.ErrRange, Fuel: 1}) {
		t.Errorf("%+v, %v", s, err)
	}
	if s, err := Block(prog("begin | jump 1"), 0, regs, nil); err != api.OK || !sameStroke(s, api.Stroke{Kind: api.Failed, Err: api.ErrFuel, Fuel: 4096}) {
		t.Errorf("%+v, %v", s, err)
	}

	m := made(t, script(2, []uint64{5, 6}, doubles))
	told := []api.Event{{Kind: api.Begin}, {Kind: api.Read, Word: 5}, {Kind: api.Write, Word: 10}, {Kind: api.Read, Word: 10, Own: true}, {Kind: api.Committed, Word: 1}}
	if l := step(t, m, 0); !slices.Equal(l, told) || !slices.Equal(m.Words(), []uint64{10, 6}) || m.Commits() != 1 {
		t.Errorf("%v, %v, %d", l, m.Words(), m.Commits())
	}
	if l := step(t, m, 0); !slices.Equal(l, []api.Event{{Kind: api.Halted}}) {
		t.Error(l)
	}
	if l := step(t, m, 0); len(l) != 0 {
		t.Error(l)
	}
	if l, err := m.Step(1); l != nil || err != api.ErrArg {
		t.Error(l, err)
	}
}

// DOC.md's examples 2, 3, 6 and 7, as far as blocks are one stroke each.
func TestExamplesOfTheWhole(t *testing.T) {
	const adds = "const 2 1 | begin | get 0 1 | add 0 0 2 | put 0 1 | end | halt"
	m := made(t, script(1, nil, adds, adds))
	picks(t, m, 0, 1, 0, 1, 0, 1)
	if m.Words()[0] != 2 || m.Commits() != 2 {
		t.Errorf("%v, %d", m.Words(), m.Commits())
	}

	both := script(2, nil, "const 0 7 | const 2 1 | begin | put 0 1 | put 0 2 | end | halt", "const 2 1 | begin | get 3 1 | get 4 2 | end | halt")
	for _, x := range []struct {
		picks []uint32
		word  uint64
	}{{[]uint32{0, 0, 1, 1, 0}, 0}, {[]uint32{0, 0, 0, 1, 1}, 7}} {
		m := made(t, both)
		picks(t, m, x.picks...)
		if th, _ := m.Thread(1); th.Regs[3] != x.word || th.Regs[4] != x.word || !slices.Equal(m.Words(), []uint64{7, 7}) {
			t.Errorf("%v: %+v", x.picks, th)
		}
	}

	m = made(t, script(1, nil, "const 1 9 | begin | get 0 1 | end | halt"))
	l := picks(t, m, 0, 0)
	th, _ := m.Thread(0)
	if !slices.Equal(l, []api.Event{{Kind: api.Begin}, {Kind: api.Failed, Err: api.ErrRange}}) || th.Status != api.Broken || th.Err != api.ErrRange || th.At != 1 || th.Regs != [8]uint64{1: 9} {
		t.Errorf("%v, %+v", l, th)
	}

	two := script(1, nil, "const 0 1 | store 0 1 | halt", "const 0 2 | store 0 1 | halt")
	two.Picks = []uint32{0, 1, 0, 1}
	if _, w, _ := Run(two); w[0] != 2 {
		t.Error(w)
	}
	two.Picks = []uint32{0, 1, 1, 0}
	if _, w, _ := Run(two); w[0] != 1 {
		t.Error(w)
	}
}
