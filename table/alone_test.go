package table

import (
	"fmt"
	"testing"

	"parley/api"
	"parley/attempt"
	"parley/cells"
	"parley/seq"
)

// block is a tx of an attempt: between its steps others may do theirs.
type block struct {
	a       *attempt.Attempt
	between func(a *attempt.Attempt)
}

func (b block) Get(addr uint64) (uint64, api.Errno) {
	turn, err := b.goesOn(b.a.Get(addr))
	if err == api.OK && turn.Out == api.OutStale {
		err = api.ErrStale
	}
	if err != api.OK {
		return 0, err
	}
	return turn.Word, api.OK
}

func (b block) Put(addr, word uint64) api.Errno {
	_, err := b.a.Put(addr, word)
	return err
}

// goesOn makes steps till what was begun is done.
func (b block) goesOn(turn api.Turn, err api.Errno) (api.Turn, api.Errno) {
	for err == api.OK && turn.Out == api.OutGoing {
		b.between(b.a)
		turn, err = b.a.Step()
	}
	return turn, err
}

// memory is a row of cells with a clock.
type memory struct {
	row   *cells.Row
	clock *seq.Clock
}

// does makes a call as a block, anew as long as it is stale; one that is refused is given up.
func (m memory) does(t *testing.T, c call, between func(a *attempt.Attempt)) answer {
	t.Helper()
	for range 5 {
		a, _, err := attempt.Begin(m.row, m.clock)
		if a == nil {
			t.Fatal("no attempt has begun", err)
		}
		b := block{a, between}
		got := c(b)
		if got.err == api.ErrStale {
			continue
		}
		if got.err != api.OK {
			a.Drop()
			return got
		}
		turn, err := b.goesOn(a.End())
		if err != api.OK {
			t.Fatal(err)
		}
		if turn.Out == api.OutCommitted {
			return got
		}
	}
	t.Fatal("is stale for no cause")
	return answer{}
}

// kept is what both calls have told, and what the maps at 20 and 36 have behind them.
func kept(one, other answer, w words) string {
	b := open(w)
	return fmt.Sprint(one, other, allOf(20)(b), allOf(36)(b), depth(20, keyOf("55"))(b))
}

// P25.6 and P0.6: a call as a block, between any two steps of which another one's is done: they are as if one was done behind the other, and a call that is refused has changed nothing.
func TestAsIfAlone(t *testing.T) {
	old, other, far := keyOf("55"), keyOf("56"), keyOf("9")
	calls := map[string]call{
		"Put of the one": puts(0, 20, old, 90), "Put beside it": puts(0, 20, other, 91), "Put at its end": puts(0, 20, keyOf("550"), 92), "Put afar": puts(0, 20, far, 93), "Put into the other": puts(0, 36, old, 94),
		"Add to the one": adds(0, 20, old, 5), "Add to a new one": adds(0, 20, far, 6), "Delete": deletes(0, 20, old), "Delete of none": deletes(0, 20, other),
		"Get": gets(20, old), "Get of none": gets(20, other), "Depth": depth(20, old), "All": allOf(20), "Len of the other": length(36),
	}
	// Cells for a node and a leaf more, for a leaf alone, and for none.
	for _, cells := range []uint64{36, 18, 2, 0} {
		w := laid(place{20, 0, 52, 52 + 4 + cells})
		b := open(w)
		Lay(b, 20)
		Lay(b, 36)
		for _, c := range []call{puts(0, 20, old, 1), puts(0, 36, far, 2)} {
			if got := c(b); got != none {
				t.Fatal(got)
			}
		}
		w = b.words
		for name, one := range calls {
			for beside, other := range calls {
				meet(t, fmt.Sprint(name, " beside ", beside, ", ", cells, " cells"), w, one, other)
			}
		}
	}
}

// alone makes two calls one behind the other; one that is refused is given up.
func alone(w words, one, other call) (answer, answer, words) {
	var told [2]answer
	for n, c := range []call{one, other} {
		b := open(w)
		if told[n] = c(b); told[n].err == api.OK {
			w = b.words
		}
	}
	return told[0], told[1], w
}

// meet makes one call, and another one at each place between its steps, one place at a time.
func meet(t *testing.T, name string, w words, one, other call) {
	t.Helper()
	first, second, behind := alone(w, one, other)
	oneAhead := kept(first, second, behind)
	second, first, behind = alone(w, other, one)
	otherAhead := kept(first, second, behind)
	for at := 0; ; at++ {
		m := memory{clock: seq.New()}
		m.row, _ = cells.New(100)
		for addr, word := range w {
			m.row.Store(addr, word)
		}
		steps, done := 0, false
		var beside answer
		got := m.does(t, one, func(a *attempt.Attempt) {
			// Who holds the lock is waited for.
			if steps++; !done && steps > at && !a.Locked() {
				done = true
				beside = m.does(t, other, func(*attempt.Attempt) {})
			}
		})
		if !done {
			return
		}
		now := words{}
		for addr, word := range m.row.All() {
			now.set(addr, word)
		}
		if has := kept(got, beside, now); has != oneAhead && has != otherAhead {
			t.Fatalf("%s, at %d: %s, neither %s nor %s", name, at, has, oneAhead, otherAhead)
		}
	}
}
