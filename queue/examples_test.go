package queue

import (
	"slices"
	"testing"

	"parley/api"
	rooms "parley/room"
)

// forty is the examples' tx: the cells 0 to 39, all of them 0.
type forty [40]uint64

func (f *forty) Get(addr uint64) (uint64, api.Errno) {
	if addr >= uint64(len(f)) {
		return 0, api.ErrRange
	}
	return f[addr], api.OK
}

func (f *forty) Put(addr, word uint64) api.Errno {
	if addr >= uint64(len(f)) {
		return api.ErrRange
	}
	f[addr] = word
	return api.OK
}

// The chapter's examples, row by row.
func TestExamples(t *testing.T) {
	tx := &forty{}
	is := func(c call, want answer) {
		t.Helper()
		if got := c(tx); got != want {
			t.Errorf("answers %v, not %v", got, want)
		}
	}
	if err := rooms.Lay(tx, 0, 20, 40); err != api.OK {
		t.Fatal(err)
	}
	const q = 20
	is(lay(0), answer{word: q})
	is(length(q), answer{word: 0})
	is(first(q), nothing)
	is(takeOut(0, q), nothing)

	is(putIn(0, q, 5), nothing)
	is(putIn(0, q, 6), nothing)
	is(putIn(0, q, 5), nothing)
	is(length(q), answer{word: 3})
	is(all(q), answer{list: "5 6 5"})
	is(first(q), tells(5))

	second := tx[tx[q]] - 1
	is(takeOut(0, q), tells(5))
	is(takeOut(0, q), tells(6))
	is(putIn(0, q, 7), nothing)
	is(all(q), answer{list: "5 7"})
	if tx[q+1] != second+1 || tx[second] != 7 {
		t.Errorf("7 has not the cells that 6 had")
	}

	words := []uint64{5, 7}
	for Put(tx, 0, q, 9) == api.OK {
		words = append(words, 9)
	}
	// Three cells are the queue's, one is left.
	if len(words) != 8 {
		t.Errorf("%d words go", len(words))
	}
	had := *tx
	is(putIn(0, q, 9), answer{err: api.ErrRoom})
	if *tx != had {
		t.Errorf("Put was refused, and has changed cells")
	}
	is(all(q), answer{list: text(words)})

	tx[22] = 9
	is(all(q), answer{err: api.ErrQueue})
	is(drop(0, q), answer{err: api.ErrQueue})

	*tx = had
	var nodes []uint64
	for next := tx[q]; next != 0; next = tx[next] {
		nodes = append(nodes, next-1)
	}
	is(drop(0, q), nothing)
	slices.Reverse(nodes)
	if got, err := rooms.Given(tx, 0, 2); !slices.Equal(got, nodes) || err != api.OK {
		t.Errorf("given back were %v, %v, not %v", got, err, nodes)
	}
	if got, err := rooms.Given(tx, 0, 3); !slices.Equal(got, []uint64{q}) || err != api.OK {
		t.Errorf("given back were %v, %v", got, err)
	}
}
