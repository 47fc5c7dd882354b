package skip

import (
	"slices"
	"testing"

	"parley/api"
	rooms "parley/room"
)

// hundred is the examples' tx: the cells 0 to 99, all of them 0.
type hundred [100]uint64

func (h *hundred) Get(addr uint64) (uint64, api.Errno) {
	if addr >= uint64(len(h)) {
		return 0, api.ErrRange
	}
	return h[addr], api.OK
}

func (h *hundred) Put(addr, word uint64) api.Errno {
	if addr >= uint64(len(h)) {
		return api.ErrRange
	}
	h[addr] = word
	return api.OK
}

// The chapter's examples, row by row.
func TestExamples(t *testing.T) {
	tx := &hundred{}
	is := func(c call, want answer) {
		t.Helper()
		if got := c(tx); got != want {
			t.Errorf("answers %v, not %v", got, want)
		}
	}
	stand := func(addr uint64, row ...uint64) {
		t.Helper()
		if got := tx[addr : addr+uint64(len(row))]; !slices.Equal(got, row) {
			t.Errorf("the cells from %d on have %v, not %v", addr, got, row)
		}
	}
	if err := rooms.Lay(tx, 0, 40, 100); err != api.OK {
		t.Fatal(err)
	}

	is(lay(20), no)
	is(keys(20), no)
	is(first(20), no)
	is(after(20, 5), no)

	is(insert(0, 20, 7, 1), yes)
	stand(20, 41)
	stand(40, 7, 1, 0)
	is(insert(0, 20, 3, 2), yes)
	is(insert(0, 20, 7, 5), no)

	stand(20, 44, 44)
	stand(43, 3, 2, 41, 0)

	is(keys(20), answer{list: "3 7"})
	is(has(20, 7), yes)
	is(has(20, 4), no)
	is(after(20, 3), tells(7))
	is(after(20, 7), no)
	is(length(20), answer{word: 2})

	is(remove(0, 20, 3), yes)
	is(remove(0, 20, 3), no)
	stand(20, 41, 0)

	is(insert(0, 20, 1, 2), yes)
	stand(43, 1, 2, 41, 0)
	stand(20, 44, 44)
	is(insert(0, 20, 9, 0), yes)
	stand(47, 9, 1, 0)
	is(insert(0, 20, 8, 99), yes)
	stand(50, 8, 8, 48, 0, 0, 0, 0, 0, 0, 0)
	is(keys(20), answer{list: "1 7 8 9"})

	for _, r := range []struct {
		level int
		steps []uint64
	}{{1, nil}, {1, []uint64{2}}, {3, []uint64{1, 3, 4}}, {8, []uint64{1, 1, 1, 1, 1, 1, 1, 1, 1}}} {
		if got := Level(r.steps...); got != r.level {
			t.Errorf("Level(%v) is %d, not %d", r.steps, got, r.level)
		}
	}

	tx[49] = 48
	is(keys(20), answer{err: api.ErrShape})
}
