package room

import (
	"testing"

	"parley/api"
)

// places is where headers may stand; of the later ones they go round, at one cell or another.
var places = []uint64{0, 1, 500, 1 << 40, top - 17, top - 16, top - 4, top - 1, top}

// P20.2: a new piece.
func TestTakeNew(t *testing.T) {
	for _, at := range places {
		for size := uint64(1); size <= 16; size++ {
			head := at + 1 + size
			asked := []access{get(head), get(at), get(at + 1)}
			for _, left := range []uint64{size, size + 1, 100, 1 << 40} {
				const from = 1000
				goes(t, words{at: from, at + 1: from + left}, take(at, size), fine(from), append(asked, put(at, from+size))...)
			}
			for _, left := range []uint64{0, 1, size - 1} {
				if left < size {
					goes(t, words{at: 1000, at + 1: 1000 + left}, take(at, size), answer{err: api.ErrRoom}, asked...)
				}
			}
		}
	}
}

// P20.2: the two words of which cells are taken, at their edges.
func TestTakeAtTheEdges(t *testing.T) {
	rows := []struct {
		name           string
		next, to, size uint64
		ok             bool
	}{
		{"as many as are left", 24, 28, 4, true},
		{"one more than are left", 24, 28, 5, false},
		{"the first cell is 0", 0, 16, 16, true},
		{"the first cell is 0, one is missing", 0, 15, 16, false},
		{"none are left", 28, 28, 1, false},
		{"none are left at 0", 0, 0, 1, false},
		{"none are left at the last one", top, top, 1, false},
		{"none are left at the last one, though the sum goes round", top, top, 16, false},
		{"the one is above the other", 29, 28, 1, false},
		{"the one is above the other, by much", top, 28, 1, false},
		{"the one is above the other, and the sum goes round", top - 3, 28, 8, false},
		{"the one is above 0", 1, 0, 1, false},
		{"all cells", 0, top, 16, true},
		{"the last cells", top - 4, top, 4, true},
		{"the last cells, one is missing: the sum goes round", top - 4, top, 5, false},
		{"the last cells, all but one missing", top - 1, top, 16, false},
		{"the last cell", top - 1, top, 1, true},
		{"more than half of all", 5, 1<<63 + 6, 1, true},
		{"more than half of all, the other way", 1<<63 + 6, 5, 1, false},
		{"as far as 32 bits", 5, 5 + 1<<32, 1, true},
	}
	for _, r := range rows {
		t.Run(r.name, func(t *testing.T) {
			w := words{100: r.next, 101: r.to}
			asked := []access{get(101 + r.size), get(100), get(101)}
			if r.ok {
				goes(t, w, take(100, r.size), fine(r.next), append(asked, put(100, r.next+r.size))...)
			} else {
				goes(t, w, take(100, r.size), answer{err: api.ErrRoom}, asked...)
			}
		})
	}
}

// P20.2: a piece that was given back, whether others are behind it, and whether cells are left or not.
func TestTakeGiven(t *testing.T) {
	for _, at := range places {
		for size := uint64(1); size <= 16; size++ {
			head := at + 1 + size
			for _, next := range []uint64{0, 1, 25, 1 << 50, top} {
				trace := []access{get(head), get(2000), put(head, next)}
				goes(t, words{head: 2001, 2000: next}, take(at, size), fine(2000), trace...)
				goes(t, words{head: 2001, 2000: next, at: 3000, at + 1: 4000}, take(at, size), fine(2000), trace...)
			}
		}
	}
}

// P20.2: such pieces at the first cell and the last ones, and where they can't be: nothing is asked of them.
func TestTakeGivenAtTheEdges(t *testing.T) {
	goes(t, words{103: 1, 0: 9}, take(100, 2), fine(0), get(103), get(0), put(103, 9))
	goes(t, words{103: top, top - 1: 9}, take(100, 2), fine(top-1), get(103), get(top-1), put(103, 9))
	goes(t, words{103: 104, 100: 20, 101: 30}, take(100, 2), fine(103), get(103), get(103), put(103, 104))
	goes(t, words{103: 101, 100: 20, 101: 30}, take(100, 2), fine(100), get(103), get(100), put(103, 20))
	goes(t, words{103: 51, 50: 51}, take(100, 2), fine(50), get(103), get(50), put(103, 51))
}

// P20.2: only pieces of just that size are looked at.
func TestTakeOfItsSize(t *testing.T) {
	for size := uint64(1); size <= 16; size++ {
		w := words{0: 1000, 1: 1000 + size}
		for other := uint64(1); other <= 16; other++ {
			if other != size {
				w[1+other] = 2001 + other
			}
		}
		goes(t, w, take(0, size), fine(1000), get(1+size), get(0), get(1), put(0, 1000+size))
		w[1] = 1000
		goes(t, w, take(0, size), answer{err: api.ErrRoom}, get(1+size), get(0), get(1))
	}
}

// P20.2: sizes that may not be.
func TestTakeOfNoSize(t *testing.T) {
	for _, size := range wrongSizes {
		for _, at := range places {
			errs(t, take(at, size), api.ErrArg)
		}
	}
}
