package rank

import (
	"testing"

	"parley/api"
	rooms "parley/room"
)

// hundred is the examples' tx: the cells 0 to 99, all of them 0.
type hundred [100]uint64

func (f *hundred) Get(addr uint64) (uint64, api.Errno) {
	if addr >= uint64(len(f)) {
		return 0, api.ErrRange
	}
	return f[addr], api.OK
}

func (f *hundred) Put(addr, word uint64) api.Errno {
	if addr >= uint64(len(f)) {
		return api.ErrRange
	}
	f[addr] = word
	return api.OK
}

// The chapter's examples, row by row.
func TestExamples(t *testing.T) {
	tx := &hundred{}
	is := func(c call, want answer) {
		t.Helper()
		if got := c(tx); got != want {
			t.Errorf("answers %v, not %v", got, want)
		}
	}
	if err := rooms.Lay(tx, 0, 18, 100); err != api.OK {
		t.Fatal(err)
	}
	const h, g = 18, 20
	is(lay(0), answer{word: h})
	is(lay(0), answer{word: g})

	is(push(0, h, of(2.5, 7)), nothing)
	is(push(0, h, of(-1, 8)), nothing)
	is(push(0, h, of(2.5, 3)), nothing)
	is(allOf(h), lists(of(-1, 8), of(2.5, 3), of(2.5, 7)))

	is(push(0, h, of(nan, 1)), nothing)
	is(push(0, h, of(minus, 1)), nothing)
	is(push(0, h, of(0, 1)), nothing)
	is(push(0, h, of(inf, 1)), nothing)
	is(allOf(h), lists(of(-1, 8), of(minus, 1), of(0, 1), of(2.5, 3), of(2.5, 7), of(inf, 1), of(nan, 1)))

	is(pop(0, h), tells(of(-1, 8)))
	is(firstOf(h), tells(of(minus, 1)))
	is(length(h), answer{word: 6})

	is(push(0, g, of(-3, 9)), nothing)
	is(joins(h, g), nothing)
	is(firstOf(h), tells(of(-3, 9)))
	is(length(g), answer{word: 0})
	is(joins(h, h), answer{err: api.ErrArg})

	is(clearAll(0, h), answer{word: 7})
	is(pop(0, h), nothing)
}
