package room

import (
	"testing"

	"parley/api"
)

// hundred is the examples' tx: the cells 0 to 99, all of them 0.
type hundred [100]uint64

func (h *hundred) Get(addr uint64) (uint64, api.Errno) {
	if addr >= uint64(len(h)) {
		return 0, api.ErrRange
	}
	return h[addr], api.OK
}

func (h *hundred) Put(addr, word uint64) api.Errno {
	if addr >= uint64(len(h)) {
		return api.ErrRange
	}
	h[addr] = word
	return api.OK
}

// stale is a tx whose Get answers ErrStale.
type stale struct{ hundred }

func (s *stale) Get(addr uint64) (uint64, api.Errno) { return 0, api.ErrStale }

// The chapter's examples, row by row.
func TestExamples(t *testing.T) {
	tx := &hundred{}
	is := func(tx api.Tx, c call, want answer) {
		t.Helper()
		if got := c(tx); got != want {
			t.Errorf("answers %v, not %v", got, want)
		}
	}
	has := func(addr, word uint64) {
		t.Helper()
		if tx[addr] != word {
			t.Errorf("the cell %d has %d, not %d", addr, tx[addr], word)
		}
	}

	is(tx, lay(0, 20, 30), fine())
	has(0, 20)
	has(1, 30)
	is(tx, lay(0, 30, 20), answer{err: api.ErrArg})
	is(nil, lay(0, 20, 30), answer{err: api.ErrNil})
	has(0, 20)
	has(1, 30)

	is(tx, take(0, 4), fine(20))
	is(tx, take(0, 4), fine(24))
	is(tx, take(0, 4), answer{err: api.ErrRoom})
	is(tx, left(0), fine(2))

	is(tx, give(0, 20, 4), fine())
	is(tx, give(0, 24, 4), fine())
	is(tx, given(0, 4), answer{list: "24 20"})
	has(5, 25)
	has(24, 21)
	has(20, 0)

	is(tx, take(0, 4), fine(24))
	is(tx, take(0, 2), fine(28))
	is(tx, take(0, 17), answer{err: api.ErrArg})
	is(tx, take(0, 0), answer{err: api.ErrArg})

	is(&stale{}, take(0, 4), answer{err: api.ErrStale})
}
