package explore

import (
	"math"
	"slices"
	"testing"

	"parley/api"
)

// P19.4: how many states have each distance.
func TestDistances(t *testing.T) {
	distancesAre(t, script(1, nil, "halt"), 1, 1)
	distancesAre(t, script(1, nil, "jump 0"), 1)
	distancesAre(t, script(1, nil, "const 0 1 | jump 1"), 1, 1)
	distancesAre(t, script(1, nil, "const 0 1 | jump 0"), 1, 1, 1)
	distancesAre(t, script(1, nil, "halt", "halt"), 1, 2, 1)
	distancesAre(t, script(1, nil, "halt", "halt", "halt"), 1, 3, 3, 1)
	distancesAre(t, script(1, nil, "halt", "jump 0"), 1, 1)
	distancesAre(t, script(1, nil, "const 0 1 | halt", "halt"), 1, 2, 2, 1)
	distancesAre(t, api.Script{Cells: 1, Programs: slices.Repeat([][]api.Instr{prog("halt")}, 8)}, 1, 8, 28, 56, 70, 56, 28, 8, 1)
	distancesAre(t, script(1, nil, "const 0 1 | store 0 7 | halt", "const 0 2 | store 0 7 | halt"), 1, 2, 3, 4, 4, 4, 2)
}

// P19.4: most below 0, of 0, in the midst, and above all distances; the order within one distance; cells that come more than once.
func TestEach(t *testing.T) {
	s := script(2, []uint64{5}, "const 0 9 | store 0 7 | halt", "const 0 2 | store 0 7 | halt")
	a, b, c := []uint64{5, 0}, []uint64{9, 0}, []uint64{2, 0}
	want := []shown{
		{0, a},
		{1, a}, {1, a},
		{2, c}, {2, a}, {2, b},
		{3, c}, {3, c}, {3, b}, {3, b},
		{4, c}, {4, c}, {4, b}, {4, b},
		{5, c}, {5, c}, {5, b}, {5, b},
		{6, c}, {6, b},
	}
	for _, most := range []int{-1, -2, -1 << 32, math.MinInt} {
		eachIs(t, s, most)
	}
	for most := range 10 {
		behind := slices.IndexFunc(want, func(x shown) bool { return x.distance > most })
		if behind < 0 {
			behind = len(want)
		}
		eachIs(t, s, most, want[:behind]...)
	}
	for _, most := range []int{6, 7, 1000, 1 << 32, math.MaxInt} {
		eachIs(t, s, most, want...)
	}
	eachIs(t, script(1, nil, "jump 0"), 5, shown{0, []uint64{0}})
	eachIs(t, script(1, []uint64{7}, "halt"), 0, shown{0, []uint64{7}})
}

// P19.4: the order of cells, the first address at which they differ first, words as words.
func TestEachInOrder(t *testing.T) {
	s := script(20, []uint64{1 << 63, top},
		"const 0 18446744073709551615 | store 0 7 | halt",
		"const 1 1 | store 1 7 | halt",
		"const 1 19 | store 1 1 | halt",
		"const 1 1 | store 7 1 | halt")
	m, _ := agrees(t, s, 2000)
	kinds := map[string]int{}
	for _, x := range m.each(6) {
		if x.distance == 6 {
			kinds[full(api.Outcome{Cells: x.cells})]++
		}
	}
	if len(kinds) < 10 {
		t.Errorf("%d kinds of cells", len(kinds))
	}
}

// P19.4: a walk may be left at any time, gone through again, and within itself.
func TestEachLeftAndAgain(t *testing.T) {
	s := script(2, []uint64{5}, "const 0 9 | store 0 7 | halt", "const 0 2 | store 0 7 | halt")
	want := walked(s, 5)
	all := Each(s, 5)
	for most := 1; most <= len(want); most++ {
		n := 0
		for distance, cells := range all {
			if distance != want[n].distance || !slices.Equal(cells, want[n].cells) {
				t.Fatalf("left behind %d: the state %d is %d, %v", most, n, distance, cells)
			}
			if n++; n == most {
				break
			}
		}
		if n != most {
			t.Errorf("%d, not %d", n, most)
		}
	}
	outer := 0
	for range all {
		inner := 0
		for range all {
			inner++
		}
		if outer++; inner != len(want) {
			t.Fatalf("a walk within itself tells %d", inner)
		}
	}
	if outer != len(want) {
		t.Errorf("the walk around tells %d", outer)
	}
	// To walk on by hand, behind a walk that was left.
	count := 0
	all(func(int, []uint64) bool { count++; return false })
	if count != 1 {
		t.Errorf("it goes on %d times", count)
	}
}

// P19.4: of scripts that are refused nothing is told.
func TestEachRefused(t *testing.T) {
	for _, s := range []api.Script{{}, script(1, nil, "begin | halt"), script(1, nil, "const 1 1 | add 0 0 1 | jump 1")} {
		for _, most := range []int{0, 3} {
			if l := walked(s, most); len(l) != 0 {
				t.Errorf("%s: %v", asText(s), l)
			}
		}
	}
}
