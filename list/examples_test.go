package list

import (
	"testing"

	"parley/api"
	rooms "parley/room"
)

// sixty is the examples' tx: the cells 0 to 59, all of them 0.
type sixty [60]uint64

func (s *sixty) Get(addr uint64) (uint64, api.Errno) {
	if addr >= uint64(len(s)) {
		return 0, api.ErrRange
	}
	return s[addr], api.OK
}

func (s *sixty) Put(addr, word uint64) api.Errno {
	if addr >= uint64(len(s)) {
		return api.ErrRange
	}
	s[addr] = word
	return api.OK
}

// stale is a tx that answers ErrStale.
type stale struct{ sixty }

func (s *stale) Get(addr uint64) (uint64, api.Errno) { return 0, api.ErrStale }

// The chapter's examples, row by row.
func TestExamples(t *testing.T) {
	tx := &sixty{}
	is := func(tx api.Tx, c call, want answer) {
		t.Helper()
		if got := c(tx); got != want {
			t.Errorf("answers %v, not %v", got, want)
		}
	}
	if err := rooms.Lay(tx, 0, 18, 60); err != api.OK {
		t.Fatal(err)
	}
	l, err := New(tx, 0)
	if err != api.OK {
		t.Fatal(err)
	}

	is(tx, insert(0, l, 5), yes)
	is(tx, insert(0, l, 2), yes)
	is(tx, insert(0, l, 5), no)
	is(tx, keys(l), answer{list: "2 5"})
	is(tx, length(l), answer{word: 2})

	is(tx, has(l, 2), yes)
	is(tx, has(l, 3), no)
	is(tx, above(l, 2), tells(5))
	is(tx, above(l, 5), no)
	is(tx, first(l), tells(2))

	is(tx, remove(0, l, 3), no)
	is(tx, remove(0, l, 2), yes)
	is(tx, keys(l), answer{list: "5"})

	is(tx, clearAll(0, l), answer{word: 1})
	is(tx, keys(l), no)
	is(tx, first(l), no)

	is(&stale{}, has(l, 2), answer{err: api.ErrStale})
	is(nil, has(l, 2), answer{err: api.ErrNil})

	is(tx, insert(0, l, 5), yes)
	is(tx, insert(0, l, 7), yes)
	one := tx[l+1] - 1
	two := tx[one+1] - 1
	tx[two+1] = one + 1
	is(tx, keys(l), answer{err: api.ErrList})
}
