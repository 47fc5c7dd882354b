package rank

import (
	"fmt"
	"testing"

	"parley/api"
	"parley/attempt"
	"parley/cells"
	"parley/seq"
)

// block is a tx of an attempt: between its steps others may do theirs.
type block struct {
	a       *attempt.Attempt
	between func(a *attempt.Attempt)
}

func (b block) Get(addr uint64) (uint64, api.Errno) {
	turn, err := b.goesOn(b.a.Get(addr))
	if err == api.OK && turn.Out == api.OutStale {
		err = api.ErrStale
	}
	if err != api.OK {
		return 0, err
	}
	return turn.Word, api.OK
}

func (b block) Put(addr, word uint64) api.Errno {
	_, err := b.a.Put(addr, word)
	return err
}

// goesOn makes steps till what was begun is done.
func (b block) goesOn(turn api.Turn, err api.Errno) (api.Turn, api.Errno) {
	for err == api.OK && turn.Out == api.OutGoing {
		b.between(b.a)
		turn, err = b.a.Step()
	}
	return turn, err
}

// memory is a row of cells with a clock.
type memory struct {
	row   *cells.Row
	clock *seq.Clock
}

// does makes a call as a block, anew as long as it is stale; one that is refused is given up.
func (m memory) does(t *testing.T, c call, between func(a *attempt.Attempt)) answer {
	t.Helper()
	for range 5 {
		a, _, err := attempt.Begin(m.row, m.clock)
		if a == nil {
			t.Fatal("no attempt has begun", err)
		}
		b := block{a, between}
		got := c(b)
		if got.err == api.ErrStale {
			continue
		}
		if got.err != api.OK {
			a.Drop()
			return got
		}
		turn, err := b.goesOn(a.End())
		if err != api.OK {
			t.Fatal(err)
		}
		if turn.Out == api.OutCommitted {
			return got
		}
	}
	t.Fatal("is stale for no cause")
	return answer{}
}

// kept is what both calls have told, and what the heaps at 18 and 20 have behind them.
func kept(t *testing.T, one, other answer, w words) string {
	t.Helper()
	return fmt.Sprint(one, other, w.entries(t, 18), w.entries(t, 20))
}

// P24.5 and P0.6: a call as a block, between any two steps of which another one's is done: they are as if one was done behind the other, and a call that is refused has changed nothing.
func TestAsIfAlone(t *testing.T) {
	calls := map[string]call{
		"Push of the first": push(0, 18, of(-5, 0)), "Push of the last": push(0, 18, of(nan, 1)), "Push of one between": push(0, 18, of(2, 4)), "Push into the other": push(0, 20, of(1.5, 2)),
		"Pop": pop(0, 18), "Pop of the other": pop(0, 20), "Join": joins(18, 20), "Join the other way": joins(20, 18), "Clear": clearAll(0, 18), "First": firstOf(18), "Len": length(20), "All": allOf(18),
	}
	// Cells for one node more, and for none.
	for room := range 2 {
		w := laid(place{0, 18, uint64(18 + 4 + 5*(6+room))})
		w.set(0, 22)
		b := open(w)
		sow(b.words, 18, halves)
		sow(b.words, 20, halves)
		for _, c := range []call{
			push(0, 18, of(2, 0)), push(0, 18, of(3, 5)), push(0, 18, of(3, 0)), push(0, 18, of(1, 0)), push(0, 20, of(7, 0)), push(0, 20, of(0, 0)),
		} {
			if got := c(b); got != nothing {
				t.Fatal(got)
			}
		}
		w = b.words
		for name, one := range calls {
			for beside, other := range calls {
				meet(t, fmt.Sprint(name, " beside ", beside, ", room ", room), w, one, other)
			}
		}
	}
}

// meet makes one call, and another one at each place between its steps, one place at a time.
func meet(t *testing.T, name string, w words, one, other call) {
	t.Helper()
	b, c := open(w), open(w)
	first, second := one(b), other(b)
	oneAhead := kept(t, first, second, b.words)
	second, first = other(c), one(c)
	otherAhead := kept(t, first, second, c.words)
	for at := 0; ; at++ {
		m := memory{clock: seq.New()}
		m.row, _ = cells.New(60)
		for addr, word := range w {
			m.row.Store(addr, word)
		}
		steps, done := 0, false
		var beside answer
		got := m.does(t, one, func(a *attempt.Attempt) {
			// Who holds the lock is waited for.
			if steps++; !done && steps > at && !a.Locked() {
				done = true
				beside = m.does(t, other, func(*attempt.Attempt) {})
			}
		})
		if !done {
			return
		}
		now := words{}
		for addr, word := range m.row.All() {
			now.set(addr, word)
		}
		if has := kept(t, got, beside, now); has != oneAhead && has != otherAhead {
			t.Fatalf("%s, at %d: %s, neither %s nor %s", name, at, has, oneAhead, otherAhead)
		}
	}
}
