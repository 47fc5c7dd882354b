package explore

import (
	"math"
	"slices"
	"testing"

	"parley/api"
)

// forks is a script with the ends 1 5, 2 5, 1 6, 2 6 in its cells 0 and 1, the cell 2 being 9.
func forks() api.Script {
	return script(3, []uint64{0, 0, 9},
		"const 0 1 | store 0 7 | halt", "const 0 2 | store 0 7 | halt",
		"const 0 5 | const 1 1 | store 0 1 | halt", "const 0 6 | const 1 1 | store 0 1 | halt")
}

// P19.3: Picks of no words, of some, of as many as there are cells, and of more.
func TestPicks(t *testing.T) {
	s := forks()
	m, has := modeled(t, s, 6000)
	if !has || len(m.ends()) != 4 {
		t.Fatalf("%v", m.ends())
	}
	// All that come to an end take 14 steps: the first ones are those that leave each store as late as must be.
	first := []uint32{0, 0, 0, 1, 1, 1, 2, 2, 2, 2, 3, 3, 3, 3}
	picksAre(t, s, nil, first)
	picksAre(t, s, []uint64{}, first)
	picksAre(t, s, []uint64{2}, first)
	picksAre(t, s, []uint64{2, 6}, first)
	picksAre(t, s, []uint64{2, 6, 9}, first)
	picksAre(t, s, []uint64{1}, []uint32{0, 1, 1, 0, 0, 1, 2, 2, 2, 2, 3, 3, 3, 3})
	picksAre(t, s, []uint64{1, 6, 9}, []uint32{0, 1, 1, 0, 0, 1, 2, 2, 2, 2, 3, 3, 3, 3})
	picksAre(t, s, []uint64{2, 5, 9}, []uint32{0, 0, 0, 1, 1, 1, 2, 2, 3, 3, 3, 2, 2, 3})
	picksAre(t, s, []uint64{1, 5}, []uint32{0, 1, 1, 0, 0, 1, 2, 2, 3, 3, 3, 2, 2, 3})
	for _, words := range [][]uint64{{0}, {3}, {top}, {1, 0}, {1, 7}, {5, 1}, {2, 6, 8}, {2, 6, 0}, {0, 0, 9}, {2, 6, 9, 0}, {2, 6, 9, 9}, {2, 6, 9, 0, 0, 0, 0}, slices.Concat([]uint64{2, 6, 9}, make([]uint64, 70000))} {
		picksAre(t, s, words, nil)
	}
	for _, words := range [][]uint64{nil, {1}, {2}, {1, 5}, {1, 6}, {2, 5}, {2, 6}, {1, 5, 9}, {3}, {1, 5, 9, 0}} {
		picks, _ := m.picks(words...)
		picksAre(t, s, words, picks)
	}
}

// P19.3: of several ends with these words the one that has the fewest picks, though another one's come first, or stand first in order.
func TestPicksOfTheFewest(t *testing.T) {
	// By 1 in the cell 0 the thread 1 goes on longer; then the cell 1 is 0, else it is 3.
	s := script(2, nil, "const 0 1 | store 0 7 | halt", "const 3 1 | load 0 7 | zero 0 6 | const 1 0 | const 1 0 | jump 8 | const 1 3 | store 1 3 | halt")
	agrees(t, s, 1000)
	l, _ := Ends(s)
	if len(l) != 2 || l[0].Cells[1] != 0 || l[1].Cells[1] != 3 || len(l[1].Picks) >= len(l[0].Picks) || slices.Compare(l[0].Picks, l[1].Picks) > 0 {
		t.Fatalf("%v", l)
	}
	picksAre(t, s, nil, l[1].Picks)
	picksAre(t, s, []uint64{1}, l[1].Picks)
	picksAre(t, s, []uint64{1, 0}, l[0].Picks)
	picksAre(t, s, []uint64{1, 3}, l[1].Picks)
}

// P19.3: the last of as many cells as there may be.
func TestPicksOfManyCells(t *testing.T) {
	first := make([]uint64, api.MaxCells)
	for n := range first {
		first[n] = uint64(n) * 3
	}
	s := script(api.MaxCells, first, "const 0 7 | const 1 65535 | store 0 1 | halt", "const 0 8 | const 1 65535 | store 0 1 | halt")
	want := slices.Clone(first)
	want[65535] = 7
	picksAre(t, s, want, []uint32{0, 0, 1, 1, 1, 0, 0, 1})
	mustIs(t, s, false, 0, want...)
	mustIs(t, s, true, 0, want[:65535]...)
	want[65535] = 8
	picksAre(t, s, want, []uint32{0, 0, 0, 0, 1, 1, 1, 1})
	want[65535] = 9
	picksAre(t, s, want, nil)
	picksAre(t, s, append(want, 0), nil)
	mustIs(t, s, true, 65534, 65534*3)
	mustIs(t, s, false, 65535, 7)
	mustIs(t, s, false, 65536, 0)
	mustIs(t, s, false, 65534, 65534*3, 7, 0)
	l, err := Ends(s)
	if err != api.OK || len(l) != 2 || l[0].Cells[65535] != 7 || l[1].Cells[65535] != 8 || !slices.Equal(l[1].Cells[:65535], first[:65535]) {
		t.Errorf("%d ends, %v", len(l), err)
	}
}

// P19.3: no end has these cells, for there is none.
func TestPicksWithoutEnds(t *testing.T) {
	s := script(1, nil, "const 0 1 | store 0 7 | halt", "jump 0")
	for _, words := range [][]uint64{nil, {}, {0}, {1}, {1, 0}} {
		picksAre(t, s, words, nil)
	}
}

// P19.3: Must of no words, of words that all ends have, that one has not, from an address of no cell, over the last cell's end.
func TestMust(t *testing.T) {
	s := forks()
	for _, from := range []uint64{0, 1, 2, 3, 4, 1 << 32, 1 << 63, top - 1, top} {
		mustIs(t, s, true, from)
		for _, words := range [][]uint64{{9}, {9, 0}, {9, 9}, {0}, {1, 5, 9}, {0, 0, 9}, {5, 9}} {
			mustIs(t, s, from == 2 && len(words) == 1 && words[0] == 9, from, words...)
		}
	}
	mustIs(t, s, false, 0, make([]uint64, 70000)...)
	mustIs(t, s, false, top, 1, 2, 9) // from and the count together would go round
	mustIs(t, s, false, top-1, 1, 1, 2, 9)

	s = script(4, []uint64{7, 8, 0, top}, "const 0 1 | const 1 2 | store 0 1 | halt", "const 0 2 | const 1 2 | store 0 1 | const 0 1 | halt")
	mustIs(t, s, true, 0, 7)
	mustIs(t, s, true, 0, 7, 8)
	mustIs(t, s, false, 0, 7, 9)
	mustIs(t, s, false, 0, 6, 8)
	mustIs(t, s, true, 1, 8)
	mustIs(t, s, false, 1, 8, 1)
	mustIs(t, s, false, 1, 8, 2)
	mustIs(t, s, false, 1, 8, 0)
	mustIs(t, s, false, 2, 1)
	mustIs(t, s, false, 2, 2)
	mustIs(t, s, false, 2, 2, top)
	mustIs(t, s, true, 3, top)
	mustIs(t, s, false, 3, math.MaxInt64)
	mustIs(t, s, false, 3, top, 0)
	mustIs(t, s, false, 4, 0)

	// One end has other words, however rarely it comes.
	s = script(1, nil, "load 0 7 | zero 0 3 | store 7 7 | halt", "const 0 1 | store 0 7 | halt")
	mustIs(t, s, false, 0, 1)
	mustIs(t, s, false, 0, 0)
	s = script(1, nil, "load 0 7 | zero 0 3 | store 0 7 | halt", "const 0 1 | store 0 7 | halt")
	mustIs(t, s, true, 0, 1)
}

// P19.3: Must of a script without ends: true, but of an address of no cell.
func TestMustWithoutEnds(t *testing.T) {
	s := script(2, []uint64{5}, "jump 0", "const 0 1 | store 0 7 | halt")
	for _, words := range [][]uint64{nil, {0}, {5}, {1}, {1, 0}, {top, top}} {
		mustIs(t, s, true, 0, words...)
		mustIs(t, s, len(words) < 2, 1, words...)
		for _, from := range []uint64{2, 3, top} {
			mustIs(t, s, len(words) == 0, from, words...)
		}
	}
	mustIs(t, s, false, 0, 0, 0, 0)
}

// Both of them hang on ends alone: not on what stands in the cells on the way.
func TestOnTheWay(t *testing.T) {
	s := script(1, nil, "const 0 1 | store 0 7 | const 0 2 | store 0 7 | halt", "load 1 7 | halt")
	picksAre(t, s, []uint64{1}, nil)
	picksAre(t, s, []uint64{0}, nil)
	mustIs(t, s, true, 0, 2)
}
