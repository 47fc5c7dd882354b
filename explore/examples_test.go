package explore

import (
	"slices"
	"testing"

	"parley/api"
)

// up is the program I of the chapter, and of DOC.md.
const up = "const 2 1 | begin | get 0 1 | add 0 0 2 | put 0 1 | end | halt"

// The chapter's examples, row by row.
func TestExamples(t *testing.T) {
	s := script(1, nil, "halt")
	foundIs(t, s, api.Found{States: 2, Ends: 1, Wide: 1})
	endsAre(t, s, api.End{Cells: []uint64{0}, Status: []api.Status{api.Ended}, Errs: []api.Errno{api.OK}, Regs: [][]uint64{regs()}, Picks: []uint32{0}})

	s = script(1, nil, up)
	endsAre(t, s, api.End{Cells: []uint64{1}, Status: []api.Status{api.Ended}, Errs: []api.Errno{api.OK}, Regs: [][]uint64{regs(1, 0, 1)}, Picks: make([]uint32, 10)})
	distancesAre(t, s, slices.Repeat([]int{1}, 11)...)

	s = script(1, nil, up, up)
	l, err := Ends(s)
	if err != api.OK || len(l) != 2 {
		t.Fatalf("Ends answers %v, %v", l, err)
	}
	for n, e := range l {
		if !slices.Equal(e.Cells, []uint64{2}) || e.Status[0] != api.Ended || e.Status[1] != api.Ended || e.Regs[0][0] != uint64(1+n) || e.Regs[1][0] != uint64(2-n) {
			t.Errorf("end %d is %v", n, e)
		}
	}
	mustIs(t, s, true, 0, 2)

	s = script(1, nil, "const 0 1 | store 0 1 | halt", "const 0 2 | store 0 1 | halt")
	l, err = Ends(s)
	if err != api.OK || len(l) != 2 || !slices.Equal(l[0].Cells, []uint64{1}) || !slices.Equal(l[1].Cells, []uint64{2}) {
		t.Errorf("Ends answers %v, %v", l, err)
	}
	picksAre(t, s, []uint64{3}, nil)

	s = script(1, nil, "jump 0")
	foundIs(t, s, api.Found{States: 1, Wide: 1, Loops: true})
	mustIs(t, s, true, 0, 7)
}

// DOC.md's examples 3, 6, 7 and 10.
func TestExamplesOfTheWhole(t *testing.T) {
	// One block puts 7 into two cells, the other one gets both: 0 and 0, or 7 and 7.
	s := script(2, nil, "const 2 7 | const 3 1 | begin | put 2 0 | put 2 3 | end | halt", "const 3 1 | begin | get 0 1 | get 1 3 | end | halt")
	l, err := Ends(s)
	if err != api.OK || len(l) != 2 || !slices.Equal(l[0].Regs[1][:2], []uint64{0, 0}) || !slices.Equal(l[1].Regs[1][:2], []uint64{7, 7}) {
		t.Errorf("Ends answers %v, %v", l, err)
	}
	// Loaded plainly: 0 and 7, and 7 and 0, too.
	s = script(2, nil, "const 2 7 | const 3 1 | begin | put 2 0 | put 2 3 | end | halt", "const 3 1 | load 0 1 | load 1 3 | halt")
	l, err = Ends(s)
	if err != api.OK || len(l) != 4 {
		t.Errorf("Ends answers %v, %v", l, err)
	}
	agrees(t, s, 1000)

	s = script(1, nil, "const 1 9 | begin | get 0 1 | end | halt")
	endsAre(t, s, api.End{Cells: []uint64{0}, Status: []api.Status{api.Broken}, Errs: []api.Errno{api.ErrRange}, Regs: [][]uint64{regs(0, 9)}, Picks: []uint32{0, 0, 0}})

	refused(t, "no cells", script(0, nil, "halt"), api.ErrScript)
	refused(t, "no programs", script(1, nil), api.ErrScript)
	refused(t, "a program that ends within a block", script(1, nil, "begin | get 0 0"), api.ErrScript)
}

// P0.4, P0.1 over all picks: three blocks that add 1 come to 3, whoever was stale, and each of them has seen another number.
func TestThreeAdd(t *testing.T) {
	s := script(1, []uint64{40}, up, up, up)
	mustIs(t, s, true, 0, 43)
	l, err := Ends(s)
	if err != api.OK || len(l) != 6 {
		t.Fatalf("%d ends, %v", len(l), err)
	}
	for _, e := range l {
		seen := []uint64{e.Regs[0][0], e.Regs[1][0], e.Regs[2][0]}
		slices.Sort(seen)
		if !slices.Equal(seen, []uint64{41, 42, 43}) || len(e.Picks) != 30 {
			t.Errorf("%v, by %v", seen, e.Picks)
		}
		comesBy(t, s, e)
	}
}
