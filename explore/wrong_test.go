package explore

import (
	"math"
	"slices"
	"testing"

	"parley/api"
)

// refused asks all calls for an error, and for nothing beside it.
func refused(t *testing.T, what string, s api.Script, want api.Errno) {
	t.Helper()
	if f, err := All(s); err != want || f != (api.Found{}) {
		t.Errorf("%s: All answers %+v, %v", what, f, err)
	}
	if l, err := Ends(s); err != want || l != nil {
		t.Errorf("%s: Ends answers %v, %v", what, l, err)
	}
	for _, words := range [][]uint64{nil, {0}, make([]uint64, 70)} {
		if l, has, err := Picks(s, words...); err != want || has || l != nil {
			t.Errorf("%s: Picks answers %v, %v, %v", what, l, has, err)
		}
		for _, from := range []uint64{0, 1, top} {
			if must, err := Must(s, from, words...); err != want || must {
				t.Errorf("%s: Must answers %v, %v", what, must, err)
			}
		}
		if want == api.ErrMany {
			break // each call looks at many states
		}
	}
	if l, err := Distances(s); err != want || l != nil {
		t.Errorf("%s: Distances answers %v, %v", what, l, err)
	}
	for _, most := range []int{math.MinInt, -1, 0, 1, math.MaxInt} {
		all := Each(s, most)
		if all == nil {
			t.Fatalf("%s: there is no walk", what)
		}
		for distance, cells := range all {
			t.Errorf("%s: Each tells %d, %v", what, distance, cells)
			break
		}
		if want == api.ErrMany && most >= -1 {
			break
		}
	}
}

// P19.1: scripts that may not be, by their cells, first words and how many programs they have.
func TestScriptsThatMayNotBe(t *testing.T) {
	halt := prog("halt")
	programs := func(n int) [][]api.Instr { return slices.Repeat([][]api.Instr{halt}, n) }
	for what, s := range map[string]api.Script{
		"nothing":              {},
		"no cells":             {Programs: programs(1)},
		"-1 cells":             {Cells: -1, Programs: programs(1)},
		"the least number":     {Cells: math.MinInt, Programs: programs(1)},
		"too many cells":       {Cells: 65537, Programs: programs(1)},
		"the greatest number":  {Cells: math.MaxInt, Programs: programs(1)},
		"2^32 cells":           {Cells: 1 << 32, Programs: programs(1)},
		"two first words":      {Cells: 1, First: []uint64{1, 2}, Programs: programs(1)},
		"too many first words": {Cells: 65536, First: make([]uint64, 65537), Programs: programs(1)},
		"noughts too many":     {Cells: 3, First: make([]uint64, 4), Programs: programs(1)},
		"no program":           {Cells: 1},
		"an empty list":        {Cells: 1, Programs: [][]api.Instr{}},
		"nine programs":        {Cells: 1, Programs: programs(9)},
		"a hundred programs":   {Cells: 1, Programs: programs(100)},
	} {
		refused(t, what, s, api.ErrScript)
		s.Picks = []uint32{0, 1, 2}
		refused(t, what+", picks", s, api.ErrScript)
	}
}

// P19.1: programs that may not run, alone and at each place among others.
func TestProgramsThatMayNotRun(t *testing.T) {
	halt := prog("halt")
	for _, p := range [][]api.Instr{nil, {}, slices.Repeat(halt, 257), {{}, halt[0]}, {{Op: 18}, halt[0]}, {{Op: -1}, halt[0]}, {{Op: api.OpConst, A: 8}, halt[0]}, {{Op: api.OpConst, A: -1}, halt[0]}, {{Op: api.OpHalt, N: 1}},
		prog("jump 1"), prog("const 0 1"), prog("begin | halt"), prog("begin | get 0 1 | end"), prog("end | halt"), prog("get 0 0 | halt"),
		prog("zero 0 2 | begin | end | halt"), prog("begin | begin | end | halt"), prog("begin | load 0 0 | end | halt")} {
		for n := 1; n <= api.MaxThreads; n++ {
			s := api.Script{Cells: 2, Programs: slices.Repeat([][]api.Instr{halt}, n)}
			s.Programs[n-1] = p
			refused(t, "the last program", s, api.ErrScript)
			slices.Reverse(s.Programs)
			refused(t, "the first program", s, api.ErrScript)
		}
	}
}

// P19.1: the bounds themselves may be.
func TestScriptsThatMayBe(t *testing.T) {
	halt := prog("halt")
	one := api.Found{States: 2, Ends: 1, Wide: 1}
	foundIs(t, api.Script{Cells: 1, Programs: [][]api.Instr{halt}}, one)
	foundIs(t, api.Script{Cells: 1, First: []uint64{}, Programs: [][]api.Instr{halt}, Picks: []uint32{}}, one)
	foundIs(t, api.Script{Cells: 65536, First: slices.Repeat([]uint64{top}, 65536), Programs: [][]api.Instr{halt}}, one)
	foundIs(t, api.Script{Cells: 3, First: []uint64{1, 2, 3}, Programs: [][]api.Instr{slices.Repeat(halt, 256)}}, one)
	foundIs(t, api.Script{Cells: 1, Programs: slices.Repeat([][]api.Instr{halt}, 8)}, api.Found{States: 256, Ends: 1, Wide: 70})
	foundIs(t, api.Script{Cells: 1, Programs: slices.Repeat([][]api.Instr{halt}, 7)}, api.Found{States: 128, Ends: 1, Wide: 35})
}

// The chapter's words: the script's picks are not looked at, neither what they are nor how many.
func TestPicksAreNotLookedAt(t *testing.T) {
	s := script(1, nil, "const 0 1 | store 0 1 | halt", "const 0 2 | store 0 1 | halt")
	m, _ := modeled(t, s, 100)
	for _, picks := range [][]uint32{nil, {}, {0}, {1, 1, 1, 1, 1, 1}, {7, math.MaxUint32}, make([]uint32, api.MaxPicks), make([]uint32, api.MaxPicks+1)} {
		s.Picks = picks
		foundIs(t, s, m.found())
		endsAre(t, s, m.ends()...)
		picksAre(t, s, []uint64{2}, []uint32{0, 0, 0, 1, 1, 1})
		mustIs(t, s, false, 0, 2)
		distancesAre(t, s, m.distances()...)
		eachIs(t, s, 3, m.each(3)...)
	}
}
