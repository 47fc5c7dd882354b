package room

import (
	"testing"

	"parley/api"
)

// P20.3: the first piece of its size, and further ones.
func TestGive(t *testing.T) {
	for _, at := range places {
		for size := uint64(1); size <= 16; size++ {
			head := at + 1 + size
			for _, first := range []uint64{0, 1, 25, 1 << 50, top} {
				for _, addr := range []uint64{2000, 1 << 33, 1 << 63, top / 3} {
					goes(t, words{head: first, addr: 5}, give(at, addr, size), fine(), get(head), put(addr, first), put(head, addr+1))
				}
			}
		}
	}
}

// P20.3: nothing is asked of the piece: it may never have been taken, be given back twice, or stand where no room's cells are.
func TestGiveAtTheEdges(t *testing.T) {
	goes(t, words{}, give(100, 0, 3), fine(), get(104), put(0, 0), put(104, 1))
	goes(t, words{104: 51}, give(100, 50, 3), fine(), get(104), put(50, 51), put(104, 51))
	goes(t, words{100: 20, 101: 30}, give(100, 60, 3), fine(), get(104), put(60, 0), put(104, 61))
	goes(t, words{100: 20, 101: 30}, give(100, 29, 3), fine(), get(104), put(29, 0), put(104, 30))
	goes(t, words{104: 51}, give(100, 104, 3), fine(), get(104), put(104, 51), put(104, 105))
	goes(t, words{104: 51}, give(100, 100, 3), fine(), get(104), put(100, 51), put(104, 101))
	goes(t, words{104: 51}, give(100, top-1, 3), fine(), get(104), put(top-1, 51), put(104, top))
	// Behind the greatest address is 0, which leads nowhere.
	goes(t, words{104: 51}, give(100, top, 3), fine(), get(104), put(top, 51), put(104, 0))
}

// P20.3: a piece that was never taken is the next one of its size, and the others stand behind it.
func TestGiveOfWhatWasNeverTaken(t *testing.T) {
	b := open(words{})
	Lay(b, 0, 20, 40)
	addr, _ := Take(b, 0, 2)
	Give(b, 0, addr, 2)
	if err := Give(b, 0, 900, 2); err != api.OK {
		t.Fatal(err)
	}
	for _, want := range []uint64{900, 20, 22} {
		if addr, err := Take(b, 0, 2); addr != want || err != api.OK {
			t.Errorf("Take answers %d, %v, not %d", addr, err, want)
		}
	}
}

// P20.3: sizes that may not be.
func TestGiveOfNoSize(t *testing.T) {
	for _, size := range wrongSizes {
		for _, at := range places {
			errs(t, give(at, 24, size), api.ErrArg)
			errs(t, give(at, top, size), api.ErrArg)
		}
	}
}
