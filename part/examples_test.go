package part

import (
	"slices"
	"testing"

	"parley/api"
	"parley/queue"
	rooms "parley/room"
)

// forty is the cells 0 to 39 of the examples, all of them 0 at first.
type forty [40]uint64

func (f *forty) Get(addr uint64) (uint64, api.Errno) {
	if addr >= uint64(len(f)) {
		return 0, api.ErrRange
	}
	return f[addr], api.OK
}

func (f *forty) Put(addr, word uint64) api.Errno {
	if addr >= uint64(len(f)) {
		return api.ErrRange
	}
	f[addr] = word
	return api.OK
}

// stale is a tx that answers ErrStale.
type stale struct{}

func (stale) Get(uint64) (uint64, api.Errno) { return 0, api.ErrStale }

func (stale) Put(uint64, uint64) api.Errno { return api.ErrStale }

// The chapter's examples, row by row.
func TestExamples(t *testing.T) {
	tx := &forty{}
	rooms.Lay(tx, 0, 20, 40)
	q, err := queue.New(tx, 0)
	if q != 20 || err != api.OK {
		t.Fatal(q, err)
	}
	for _, word := range []uint64{5, 6, 7} {
		queue.Put(tx, 0, q, word)
	}
	is := func(c call, want answer) {
		t.Helper()
		if got := c(tx); got != want {
			t.Errorf("answers %v, not %v", got, want)
		}
	}
	inQueue := func(want ...uint64) {
		t.Helper()
		if got, err := queue.Words(tx, q); !slices.Equal(got, want) || err != api.OK {
			t.Errorf("the queue has %v, %v, not %v", got, err, want)
		}
	}
	p := api.Part{Kind: 1, First: tx[q], Count: 3}
	is(takesQueue(q), answer{part: p})
	is(reads(p), answer{list: "5 6 7"})
	inQueue()

	is(turns(p, twice), nothing)
	is(reads(p), answer{list: "10 12 14"})

	is(lays(q, p), nothing)
	inQueue(10, 12, 14)

	is(reads(api.Part{Kind: 1, First: p.First, Count: 2}), wrong(api.ErrPart))
	is(reads(api.Part{Kind: 1, First: p.First, Count: 4}), wrong(api.ErrPart))
	is(reads(api.Part{Kind: 3, First: p.First, Count: 3}), wrong(api.ErrArg))
	if list, err := Read(p, nil); list != nil || err != api.ErrNil {
		t.Errorf("answers %v, %v", list, err)
	}

	var nodes []uint64
	for next := tx[q]; next != 0; next = tx[next] {
		nodes = append(nodes, next-1)
	}
	is(takesQueue(q), answer{part: p})
	is(gives(0, p), nothing)
	if got, err := rooms.Given(tx, 0, 2); !slices.Equal(got, backwards(nodes)) || len(got) != 3 || err != api.OK {
		t.Errorf("given back were %v, %v, not %v", got, err, backwards(nodes))
	}

	if p, err := Queue(stale{}, q); p != (api.Part{}) || err != api.ErrStale {
		t.Errorf("answers %v, %v", p, err)
	}
}
