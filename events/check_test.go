package events

import (
	"math"
	"slices"
	"testing"

	"parley/api"
)

// P13.1: histories that can be: none, of threads that are not over, of each kind, of several threads.
func TestCheckOfWhatCanBe(t *testing.T) {
	says(t, nil, fine)
	says(t, []api.Event{}, fine)
	for _, text := range []string{
		"0 begin 0",
		"7 begin 0",
		"0 halted",
		"0 failed 4",
		"0 loaded 0 0", "0 stored 18446744073709551615 18446744073709551615",
		"0 begin 0, 0 failed 4", "0 begin 0, 0 failed 5", "0 begin 0, 0 failed 6",
		"0 begin 0, 0 stale, 0 begin 0, 0 aborted, 0 begin 0, 0 committed 0, 0 loaded 1 1, 0 stored 1 1, 0 halted",
		"0 begin 0, 0 stale, 0 failed 4",
		"0 begin 0, 0 read 1 5, 0 read 1 6, 0 read 2 5", // which words are read is not asked
		"0 begin 0, 0 write 1 5, 0 write 1 6, 0 own 1 6, 0 write 1 5, 0 own 1 5, 0 read 2 5, 0 write 2 5, 0 own 2 5",
		"0 begin 0, 0 read 1 5, 0 write 1 6, 0 own 1 6",
		"0 begin 0, 0 write 1 5, 0 stale, 0 begin 0, 0 read 1 5, 0 committed 0",   // another attempt's Writes are not asked
		"0 begin 0, 0 write 1 5, 0 aborted, 0 begin 0, 0 committed 0, 0 begin 0",  // nor for a commit
		"0 begin 0, 1 begin 0, 0 write 1 5, 1 read 1 5, 1 committed 0, 0 own 1 5", // nor another thread's
		"0 begin 0, 0 write 1 5, 0 locked",
		"0 begin 0, 0 write 1 5, 0 locked, 0 committed 1, 0 halted",
		"0 begin 0, 0 write 1 5, 0 locked, 0 committed 1, 0 begin 2, 0 write 1 5, 0 locked, 0 committed 2, 0 begin 4",
		"0 begin 0, 1 begin 0, 0 write 1 1, 0 locked, 0 committed 1, 1 moved 2, 1 write 1 1, 1 locked, 1 committed 2",
		"0 begin 0, 1 begin 0, 0 write 1 1, 0 locked, 0 committed 1, 0 begin 2, 0 write 1 1, 0 locked, 0 committed 2, 1 moved 4, 1 committed 2",
		"0 begin 0, 1 begin 0, 0 write 1 1, 0 locked, 0 committed 1, 1 committed 0", // it reads alone, at its own snapshot
		"0 begin 0, 1 begin 0, 0 write 1 1, 0 locked, 1 committed 0, 0 committed 1", // also while the lock is held
		"0 begin 0, 1 begin 0, 0 write 1 1, 0 locked, 1 read 0 0, 1 write 0 0, 1 own 0 0, 1 stale, 2 loaded 0 0, 3 stored 0 0, 4 halted, 5 failed 4, 1 halted",
		"0 begin 0, 1 begin 0, 0 write 1 1, 0 locked, 1 aborted, 0 committed 1",
		"0 begin 0, 1 begin 0, 0 write 1 1, 0 locked, 1 failed 6, 0 committed 1",
		"0 begin 0, 1 begin 0, 2 begin 0, 3 begin 0, 4 begin 0, 5 begin 0, 6 begin 0, 7 begin 0, 7 write 0 1, 7 locked, 7 committed 1, 0 committed 0, 1 stale, 2 moved 2, 3 aborted, 4 failed 5, 5 read 0 0, 6 write 0 0, 7 begin 2",
	} {
		says(t, hist(text), fine)
		if want := modelCheck(hist(text)); want != fine {
			t.Errorf("%s: the model says %v", text, want)
		}
	}
}

// example is an event of each kind that is in form, by kinds.
func example(kind api.EventKind) api.Event {
	e := api.Event{Thread: 3, Kind: kind}
	switch kind {
	case api.Failed:
		e.Err = api.ErrRange
	case api.Read, api.Write, api.Loaded, api.Stored:
		e.Addr, e.Word = 5, 9
	case api.Begin, api.Moved:
		e.Word = 4
	case api.Committed:
		e.Word = 7
	}
	return e
}

// unformed are events that are not in form, each for one reason.
func unformed() []api.Event {
	var l []api.Event
	for kind := api.Begin; kind <= api.Halted; kind++ {
		e := example(kind)
		with := func(change func(*api.Event)) {
			c := e
			change(&c)
			l = append(l, c)
		}
		for _, n := range []int{-1, -2, 8, 9, 1 << 31, math.MinInt, math.MaxInt} {
			with(func(e *api.Event) { e.Thread = n })
		}
		for _, n := range []uint64{1, 2, 1 << 63, top} {
			if e.Addr == 0 {
				with(func(e *api.Event) { e.Addr = n })
			}
			if e.Word == 0 {
				with(func(e *api.Event) { e.Word = n })
			}
		}
		if kind == api.Begin || kind == api.Moved {
			for _, n := range []uint64{1, 3, 1<<63 + 1, top} {
				with(func(e *api.Event) { e.Word = n })
			}
		}
		if kind != api.Read {
			with(func(e *api.Event) { e.Own = true })
		}
		for _, n := range []api.Errno{-4, -1, 0, 1, 3, 4, 5, 6, 7, 8, 201, math.MinInt, math.MaxInt} {
			if (kind == api.Failed) != (n >= 4 && n <= 6) && (kind == api.Failed || n != 0) {
				with(func(e *api.Event) { e.Err = n })
			}
		}
	}
	for _, n := range []int{0, -1, 13, 14, 256, math.MinInt, math.MaxInt} {
		l = append(l, api.Event{Kind: api.EventKind(n)}, api.Event{Thread: 3, Kind: api.EventKind(n), Word: 2})
	}
	return append(l, api.Event{}, api.Event{Thread: -1, Kind: -1, Addr: 1, Word: 1, Own: true, Err: 1})
}

// P13.1: an event that is not in form, first, behind others, ahead of others.
func TestCheckOfForms(t *testing.T) {
	ahead := hist("0 begin 0, 3 begin 0, 0 write 1 5, 0 locked")
	for _, e := range unformed() {
		if modelFormed(e) {
			t.Fatalf("%+v is in form", e)
		}
		says(t, []api.Event{e}, api.Odd{At: 0, Err: api.ErrForm})
		for n := range ahead {
			says(t, append(slices.Clone(ahead[:n]), e), api.Odd{At: n, Err: api.ErrForm})
			says(t, slices.Insert(slices.Clone(ahead), n, e), api.Odd{At: n, Err: api.ErrForm})
		}
	}
}

// P13.1: each thread at its limits, each word that may be, in form: what is said then is said of turns and numbers.
func TestCheckOfLimits(t *testing.T) {
	for thread := range 8 {
		says(t, []api.Event{ev(thread, api.Begin, 0), ev(thread, api.Halted)}, api.Odd{At: 1, Err: api.ErrTurn})
		for _, n := range []uint64{2, 4, 1 << 63, top - 1} {
			says(t, []api.Event{ev(thread, api.Begin, n)}, api.Odd{At: 0, Err: api.ErrNumber})
			says(t, []api.Event{ev(thread, api.Begin, 0), ev(thread, api.Moved, n)}, api.Odd{At: 1, Err: api.ErrNumber})
			says(t, []api.Event{ev(thread, api.Begin, 0), ev(thread, api.Committed, n+1)}, api.Odd{At: 1, Err: api.ErrNumber})
			says(t, []api.Event{ev(thread, api.Begin, 0), ev(thread, api.Committed, n)}, api.Odd{At: 1, Err: api.ErrNumber})
			says(t, []api.Event{ev(thread, api.Begin, 0), ev(thread, api.Write, n, n+1), own(thread, n, n+1), ev(thread, api.Read, n-1, n), ev(thread, api.Read, n+1, n)}, fine)
		}
	}
	// Twice this number, with a bit lost, is the snapshot 0.
	says(t, hist("0 begin 0, 0 committed 9223372036854775808"), api.Odd{At: 1, Err: api.ErrNumber})
	says(t, hist("0 begin 9223372036854775808"), api.Odd{At: 0, Err: api.ErrNumber})
}

// states are histories behind which thread 0 is in each of its states, by the ways that lead there.
func states() map[string][]string {
	return map[string][]string{
		"outside": {"", "0 loaded 0 0", "0 stored 0 0", "0 begin 0, 0 stale", "0 begin 0, 0 aborted", "0 begin 0, 0 committed 0", "1 begin 0, 1 write 0 0, 1 locked, 1 committed 1"},
		"inside":  {"0 begin 0", "0 begin 0, 0 read 1 1", "0 begin 0, 0 write 1 1", "0 stored 0 0, 0 begin 0, 0 write 1 1, 0 own 1 1", "0 begin 0, 1 begin 0, 1 write 0 0, 1 locked, 1 committed 1, 0 moved 2"},
		"holding": {"0 begin 0, 0 write 1 1, 0 locked", "1 begin 0, 0 begin 0, 0 write 1 1, 0 locked, 1 committed 0"},
		"over":    {"0 halted", "0 failed 4", "0 begin 0, 0 failed 4", "0 begin 0, 0 failed 5", "0 begin 0, 0 failed 6", "0 loaded 0 0, 0 halted", "0 begin 0, 0 write 1 1, 0 locked, 0 committed 1, 0 halted"},
	}
}

// P13.1: each turn that a thread may and may not have in each of its states.
func TestCheckOfTurns(t *testing.T) {
	may := map[string][]string{
		"outside": {"begin", "loaded", "stored", "failed 4", "halted"},
		"inside":  {"read", "own", "write", "moved", "locked", "committed", "stale", "aborted", "failed 4", "failed 5", "failed 6"},
		"holding": {"committed"},
		"over":    {},
	}
	for state, list := range states() {
		for _, text := range list {
			h := hist(text)
			says(t, h, fine)
			for name, e := range map[string]api.Event{
				"begin": ev(0, api.Begin, 2*modelNumber(h)), "read": ev(0, api.Read, 9, 9), "own": own(0, 1, 1), "write": ev(0, api.Write, 1, 1), "moved": ev(0, api.Moved, 2),
				"locked": ev(0, api.Locked), "committed": ev(0, api.Committed, 1), "stale": ev(0, api.Stale), "aborted": ev(0, api.Aborted),
				"failed 4": ev(0, api.Failed, 4), "failed 5": ev(0, api.Failed, 5), "failed 6": ev(0, api.Failed, 6),
				"loaded": ev(0, api.Loaded, 1, 1), "stored": ev(0, api.Stored, 1, 1), "halted": ev(0, api.Halted),
			} {
				got := Check(append(slices.Clone(h), e))
				if turn := got.Err != api.ErrTurn; turn != slices.Contains(may[state], name) {
					t.Errorf("%s, %s: Check of %s behind it answers %v", state, text, name, got)
				}
				says(t, append(slices.Clone(h), e), modelCheck(append(slices.Clone(h), e)))
			}
		}
	}
}

// P13.1: the lock that another thread holds, at a Begin, a Moved and a Locked, and when it is given up.
func TestCheckOfTheLock(t *testing.T) {
	held := "0 begin 0, 1 begin 0, 2 begin 0, 1 write 0 0, 2 write 0 0, 3 begin 0, 2 locked"
	for _, x := range []struct {
		behind string
		at     int
		err    api.Errno
	}{
		{"4 begin 0", 7, api.ErrLock},
		{"4 begin 2", 7, api.ErrLock}, // ahead of the number
		{"0 moved 2", 7, api.ErrLock},
		{"0 moved 0", 7, api.ErrLock},
		{"1 locked", 7, api.ErrLock},
		{"0 locked", 7, api.ErrLock}, // ahead of the Writes that it has not
		{"0 locked, 2 committed 1", 7, api.ErrLock},
		{"2 begin 0", 7, api.ErrTurn}, // it holds the lock itself
		{"2 moved 2", 7, api.ErrTurn},
		{"2 locked", 7, api.ErrTurn},
		{"0 begin 0", 7, api.ErrTurn},
		{"4 moved 2", 7, api.ErrTurn},
		{"4 locked", 7, api.ErrTurn},
		{"2 committed 1, 4 begin 2, 0 moved 2, 1 moved 2, 1 locked, 5 begin 2", 12, api.ErrLock},
		{"2 committed 1, 1 moved 2, 1 locked, 0 moved 2", 10, api.ErrLock},
		{"2 committed 1, 1 moved 2, 1 locked, 0 committed 0, 3 stale, 1 committed 2, 0 begin 4", -1, api.OK},
		{"2 committed 1, 2 begin 2, 2 write 0 0, 2 locked, 1 moved 2", 11, api.ErrLock},
		{"1 committed 0", 7, api.ErrOwn}, // a Committed asks for no lock
		{"0 committed 0, 3 committed 0, 0 loaded 0 0", -1, api.OK},
		{"0 committed 0, 0 begin 0", 8, api.ErrLock},
	} {
		says(t, hist(held+", "+x.behind), api.Odd{At: x.at, Err: x.err})
	}
}

// P13.1: the words of Begin and Moved, the snapshot of a Locked, the numbers of commits.
func TestCheckOfNumbers(t *testing.T) {
	one := "0 begin 0, 1 begin 0, 1 write 0 0, 0 write 0 0, 0 locked"
	for _, x := range []struct {
		text string
		at   int
		err  api.Errno
	}{
		{"0 begin 2", 0, api.ErrNumber},
		{"0 begin 0, 0 moved 0", 1, api.ErrNumber}, // it is not above the snapshot
		{"0 begin 0, 0 moved 2", 1, api.ErrNumber},
		{"0 begin 0, 0 committed 1", 1, api.ErrNumber},
		{one + ", 0 committed 0", 5, api.ErrNumber},
		{one + ", 0 committed 2", 5, api.ErrNumber},
		{one + ", 0 committed 18446744073709551615", 5, api.ErrNumber},
		{one + ", 0 committed 1, 2 begin 0", 6, api.ErrNumber},
		{one + ", 0 committed 1, 2 begin 4", 6, api.ErrNumber},
		{one + ", 0 committed 1, 1 moved 0", 6, api.ErrNumber},
		{one + ", 0 committed 1, 1 moved 4", 6, api.ErrNumber},
		{one + ", 0 committed 1, 1 locked", 6, api.ErrNumber}, // its snapshot is 0
		{one + ", 0 committed 1, 1 moved 2, 1 moved 2", 7, api.ErrNumber},
		{one + ", 0 committed 1, 1 moved 2, 1 locked, 1 committed 1", 8, api.ErrNumber},
		{one + ", 0 committed 1, 1 moved 2, 1 locked, 1 committed 3", 8, api.ErrNumber},
		{one + ", 0 committed 1, 1 moved 2, 1 locked, 1 committed 2", -1, api.OK},
		{one + ", 0 committed 1, 2 begin 2, 2 committed 2", 7, api.ErrNumber},
		{one + ", 0 committed 1, 2 begin 2, 2 committed 0", 7, api.ErrNumber},
		{one + ", 0 committed 1, 2 begin 2, 2 committed 1, 2 begin 2", -1, api.OK}, // a commit that read alone leaves the number
		{"0 begin 0, 2 begin 0, 0 write 0 0, 0 locked, 0 committed 1, 2 committed 1", 5, api.ErrNumber},
		{"0 begin 0, 2 begin 0, 0 write 0 0, 0 locked, 0 committed 1, 2 moved 2, 2 committed 0", 6, api.ErrNumber},
	} {
		says(t, hist(x.text), api.Odd{At: x.at, Err: x.err})
	}
}

// P13.1: Reads, Locked and Committed by their attempts' Writes.
func TestCheckOfWrites(t *testing.T) {
	for _, x := range []struct {
		text string
		at   int
		err  api.Errno
	}{
		{"0 begin 0, 0 own 0 0", 1, api.ErrOwn}, // nothing was written
		{"0 begin 0, 0 write 1 5, 0 own 0 5", 2, api.ErrOwn},
		{"0 begin 0, 0 write 1 5, 0 own 1 4", 2, api.ErrOwn},
		{"0 begin 0, 0 write 1 5, 0 own 1 0", 2, api.ErrOwn},
		{"0 begin 0, 0 write 1 5, 0 write 1 6, 0 own 1 5", 3, api.ErrOwn}, // the last word counts
		{"0 begin 0, 0 write 1 5, 0 write 2 6, 0 own 1 6", 3, api.ErrOwn},
		{"0 begin 0, 0 write 0 0, 0 own 0 0, 0 read 0 0", 3, api.ErrOwn}, // noughts are words and addresses as others are
		{"0 begin 0, 0 write 1 5, 0 read 1 5", 2, api.ErrOwn},
		{"0 begin 0, 0 write 1 5, 0 read 1 6", 2, api.ErrOwn},
		{"0 begin 0, 0 write 1 5, 0 stale, 0 begin 0, 0 own 1 5", 4, api.ErrOwn}, // another attempt's Write
		{"0 begin 0, 0 write 1 5, 0 locked, 0 committed 1, 0 begin 2, 0 own 1 5", 5, api.ErrOwn},
		{"0 begin 0, 1 begin 0, 0 write 1 5, 1 own 1 5", 3, api.ErrOwn}, // another thread's
		{"0 begin 0, 0 stored 1 5", 1, api.ErrTurn},
		{"0 stored 1 5, 0 begin 0, 0 own 1 5", 2, api.ErrOwn}, // a plain store is no Write
		{"0 begin 0, 0 locked", 1, api.ErrOwn},
		{"0 begin 0, 0 read 1 1, 0 locked", 2, api.ErrOwn},
		{"0 begin 0, 0 write 1 1, 0 aborted, 0 begin 0, 0 locked", 4, api.ErrOwn},
		{"0 begin 0, 1 begin 0, 1 write 1 1, 0 locked", 3, api.ErrOwn},
		{"0 begin 0, 0 write 1 1, 0 committed 0", 2, api.ErrOwn},
		{"0 begin 0, 0 write 0 0, 0 committed 0", 2, api.ErrOwn},
		{"0 begin 0, 1 begin 0, 1 write 1 1, 1 locked, 1 committed 1, 0 moved 2, 0 write 0 0, 0 committed 1", 7, api.ErrOwn},
		{"0 begin 0, 0 write 1 1, 1 begin 0, 1 write 2 2, 1 locked, 1 committed 1, 0 moved 2, 0 own 1 1, 0 read 1 1", 8, api.ErrOwn}, // a Moved leaves the Writes
	} {
		says(t, hist(x.text), api.Odd{At: x.at, Err: x.err})
	}
}

// P13.1: of several reasons the first, of several events that can't be the first.
func TestCheckTellsTheFirst(t *testing.T) {
	form := api.Event{Thread: 0, Kind: api.Begin, Word: 3, Own: true}
	for _, x := range []struct {
		h    []api.Event
		want api.Odd
	}{
		{append(hist("0 halted"), form), api.Odd{At: 1, Err: api.ErrForm}},                         // form, turn, number
		{append(hist("1 begin 0, 1 write 0 0, 1 locked"), form), api.Odd{At: 3, Err: api.ErrForm}}, // form, lock, number
		{hist("1 begin 0, 1 write 0 0, 1 locked, 0 halted, 0 begin 4"), api.Odd{At: 4, Err: api.ErrTurn}},
		{hist("1 begin 0, 1 write 0 0, 1 locked, 0 moved 4"), api.Odd{At: 3, Err: api.ErrTurn}},
		{hist("1 begin 0, 1 write 0 0, 1 locked, 0 locked"), api.Odd{At: 3, Err: api.ErrTurn}},
		{hist("1 begin 0, 1 write 0 0, 1 locked, 0 own 5 5"), api.Odd{At: 3, Err: api.ErrTurn}},
		{hist("0 committed 9"), api.Odd{At: 0, Err: api.ErrTurn}},
		{hist("1 begin 0, 1 write 0 0, 1 locked, 0 begin 4"), api.Odd{At: 3, Err: api.ErrLock}},
		{hist("0 begin 0, 1 begin 0, 1 write 0 0, 1 locked, 0 moved 0"), api.Odd{At: 4, Err: api.ErrLock}},
		{hist("0 begin 0, 1 begin 0, 1 write 0 0, 1 locked, 0 locked"), api.Odd{At: 4, Err: api.ErrLock}},
		{hist("0 begin 0, 1 begin 0, 1 write 0 0, 1 locked, 1 committed 1, 0 locked"), api.Odd{At: 5, Err: api.ErrNumber}}, // and no Write
		{hist("0 begin 0, 0 write 1 1, 0 committed 1"), api.Odd{At: 2, Err: api.ErrNumber}},                                // and a Write
		{hist("0 begin 0, 0 locked, 0 halted, 8 begin 1"), api.Odd{At: 1, Err: api.ErrOwn}},
		{hist("0 begin 2, 0 begin 1"), api.Odd{At: 0, Err: api.ErrNumber}},
		{hist("0 begin 1, 0 begin 2"), api.Odd{At: 0, Err: api.ErrForm}},
		{hist("0 begin 0, 0 halted, 1 begin 1, 1 own 0 0"), api.Odd{At: 1, Err: api.ErrTurn}},
	} {
		says(t, x.h, x.want)
		if want := modelCheck(x.h); want != x.want {
			t.Errorf("%s: the model says %v", asText(x.h), want)
		}
	}
}

// P13.1, P13.2: all histories of a few events out of a small choice, each event behind what can be.
func TestCheckOfSmall(t *testing.T) {
	choice := func(threads int, list string) []api.Event {
		var l []api.Event
		for n := range threads {
			for _, e := range hist(list) {
				e.Thread = n
				l = append(l, e)
			}
		}
		return l
	}
	var grow func(h, all []api.Event, left int)
	grow = func(h, all []api.Event, left int) {
		for _, e := range all {
			err := modelWhy(h, e)
			next := append(slices.Clone(h), e)
			if err != api.OK {
				says(t, next, api.Odd{At: len(h), Err: err})
				continue
			}
			if says(t, next, fine); left > 1 {
				grow(next, all, left-1)
			}
		}
	}
	wide := "0 begin 0, 0 begin 1, 0 begin 2, 0 read 0 0, 0 read 1 0, 0 own 0 0, 0 own 0 1, 0 write 0 0, 0 write 0 1, 0 moved 0, 0 moved 2, 0 locked," +
		"0 committed 0, 0 committed 1, 0 committed 2, 0 stale, 0 aborted, 0 failed 4, 0 failed 5, 0 failed 0, 0 loaded 0 0, 0 stored 0 0, 0 halted"
	grow(nil, choice(2, wide), 5)
	grow(nil, choice(1, wide), 6)
	grow(nil, choice(2, "0 begin 0, 0 begin 2, 0 write 0 0, 0 moved 2, 0 locked, 0 committed 0, 0 committed 1, 0 committed 2"), 9)
	grow(nil, choice(3, "0 begin 0, 0 write 0 0, 0 moved 2, 0 locked, 0 committed 1"), 8)
}

// P13.1, P13.2: drawn histories, each cut at each place, and changed.
func TestCheckOfDrawn(t *testing.T) {
	d := drawn(1)
	wrong := map[api.Errno]int{}
	for n := range 600 {
		h := d.history(10+d.below(50), 1+n%8)
		says(t, h, fine)
		for range 20 {
			c := d.changed(h)
			if d.below(3) == 0 {
				c = d.changed(c)
			}
			want := modelCheck(c)
			wrong[want.Err]++
			says(t, c, want)
		}
	}
	for _, err := range []api.Errno{api.OK, api.ErrForm, api.ErrTurn, api.ErrLock, api.ErrNumber, api.ErrOwn} {
		if wrong[err] < 20 {
			t.Errorf("%v was drawn %d times", err, wrong[err])
		}
	}
}

// P13.1: what the layer below tells of its runs can be, however they are picked.
func TestCheckOfRuns(t *testing.T) {
	kinds := map[api.EventKind]int{}
	for _, h := range runs(t, 1500) {
		says(t, h, fine)
		for _, e := range h {
			kinds[e.Kind]++
		}
	}
	for kind := api.Begin; kind <= api.Halted; kind++ {
		if kinds[kind] < 20 {
			t.Errorf("kind %d was told %d times", kind, kinds[kind])
		}
	}
}

// P13.1: one long attempt, and many short ones behind it.
func TestCheckOfLong(t *testing.T) {
	var h []api.Event
	h = append(h, ev(0, api.Begin, 0))
	for n := range uint64(200000) {
		h = append(h, ev(0, api.Write, n, n+1))
	}
	for n := range uint64(200000) {
		h = append(h, own(0, n, n+1))
	}
	h = append(h, ev(0, api.Locked), ev(0, api.Committed, 1))
	for n := range uint64(100000) {
		h = append(h, ev(0, api.Begin, 2+2*n), ev(0, api.Write, n, n), ev(0, api.Locked), ev(0, api.Committed, n+2))
	}
	if got := Check(h); got != fine {
		t.Fatalf("Check answers %v", got)
	}
	l, odd := Tries(h)
	if len(l) != 100001 || odd != fine || l[0] != (api.Try{Last: 400002, How: api.Committed, Writes: 200000}) || l[100000].Snapshot != 200000 {
		t.Fatalf("Tries answers %d attempts, %v", len(l), odd)
	}
	if got := Check(append(h, ev(0, api.Begin, 200000))); got != (api.Odd{At: len(h), Err: api.ErrNumber}) {
		t.Fatalf("Check answers %v", got)
	}
}
