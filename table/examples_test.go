package table

import (
	"testing"

	"parley/api"
	rooms "parley/room"
)

// The chapter's examples, row by row: the room at 0, its cells from 40 on.
func TestExamples(t *testing.T) {
	b := open(words{})
	if err := rooms.Lay(b, 0, 40, 400); err != api.OK {
		t.Fatal(err)
	}
	tells := func(c call, want answer) {
		t.Helper()
		if got := c(b); got != want {
			t.Errorf("answers %v, not %v", got, want)
		}
	}
	has := func(addr, word uint64) {
		t.Helper()
		if got := b.words[addr]; got != word {
			t.Errorf("the cell %d has %d, not %d", addr, got, word)
		}
	}
	for key, want := range []int{0, 9, 3, 13, 7, 1} {
		if got, err := Digit(uint64(key), 0); got != want || err != api.OK {
			t.Errorf("the digit 0 of %d is %d, %v, not %d", key, got, err, want)
		}
	}

	tells(lay(20), none)
	tells(puts(0, 20, 1, 5), none)
	has(29, 81)
	has(40, 1)
	has(41, 5)
	tells(puts(0, 20, 3, 6), none)
	has(33, 85)
	has(42, 3)
	tells(puts(0, 20, 1, 7), is(5))
	has(41, 7)

	tells(gets(20, 1), is(7))
	tells(gets(20, 2), none)
	tells(depth(20, 1), none)
	tells(length(20), answer{word: 2})

	other := keyOf("90")
	tells(puts(0, 20, other, 9), none)
	has(29, 90)
	has(58, 81)
	has(44, 121)
	has(60, other)
	has(61, 9)

	tells(depth(20, 1), answer{word: 1})
	tells(deletes(0, 20, 1), is(7))
	tells(deletes(0, 20, 1), none)
	tells(depth(20, 1), answer{word: 1})

	tells(adds(0, 20, 8, top), answer{word: top})
	tells(adds(0, 20, 8, 3), answer{word: 2})
	tells(allOf(20), answer{list: text([]api.Cell{{Addr: 3, Word: 6}, {Addr: 8, Word: 2}, {Addr: other, Word: 9}})})

	b.Put(24, 2*20+2)
	tells(allOf(20), no(api.ErrDeep))

	for _, r := range []struct {
		d, want int
		err     api.Errno
	}{{0, 9, api.OK}, {1, 14, api.OK}, {16, 0, api.ErrArg}} {
		if got, err := Digit(1, r.d); got != r.want || err != r.err {
			t.Errorf("Digit(1, %d) is %d, %v", r.d, got, err)
		}
	}
	if api.ErrDeep != 350 || Header != 16 {
		t.Errorf("ErrDeep is %d, Header %d", api.ErrDeep, Header)
	}
}
