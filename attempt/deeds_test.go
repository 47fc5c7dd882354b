package attempt

import (
	"testing"

	"parley/api"
)

// in is a state with the entries 0 5, 2 7 read and 2 8, 0 9 to be written, at the snapshot 4.
func in(phase api.Phase, changes ...func(*api.Attempt)) api.Attempt {
	s := api.Attempt{Snapshot: 4, Reads: entries(0, 5, 2, 7), Writes: entries(2, 8, 0, 9), Phase: phase}
	for _, change := range changes {
		change(&s)
	}
	return s
}

// Changes of states.
func addr(n uint64) func(*api.Attempt)      { return func(s *api.Attempt) { s.Addr = n } }
func word(n uint64) func(*api.Attempt)      { return func(s *api.Attempt) { s.Word = n } }
func found(n uint64) func(*api.Attempt)     { return func(s *api.Attempt) { s.Found = n } }
func snapshot(n uint64) func(*api.Attempt)  { return func(s *api.Attempt) { s.Snapshot = n } }
func at(n int) func(*api.Attempt)           { return func(s *api.Attempt) { s.At = n } }
func reads(l []api.Cell) func(*api.Attempt) { return func(s *api.Attempt) { s.Reads = l } }
func writes(l []api.Cell) func(*api.Attempt) {
	return func(s *api.Attempt) { s.Writes = l }
}

// toLoad and toLock are what a validation leads to.
func toLoad(s *api.Attempt) { s.Then, s.Addr = api.PhaseLoad, 1 }
func toLock(s *api.Attempt) { s.Then = api.PhaseLock }

// P7.4
func TestStepWhereNothingIsToDo(t *testing.T) {
	for name, state := range map[string]api.Attempt{"idle": in(api.PhaseIdle), "idle and empty": {Phase: api.PhaseIdle}, "over": gone} {
		t.Run(name, scene{state: state, clock: 4, call: step, err: api.ErrArg}.play)
	}
}

// P7.4
func TestStepLoad(t *testing.T) {
	play(t, []scene{
		{name: "a cell", state: in(api.PhaseLoad, addr(1)), clock: 4, turn: going, behind: in(api.PhaseLook, addr(1), word(6)), used: used{1, 0}},
		{name: "the clock is not asked", state: in(api.PhaseLoad, addr(1)), clock: 7, turn: going, behind: in(api.PhaseLook, addr(1), word(6)), used: used{1, 0}},
		{name: "the first cell", state: in(api.PhaseLoad, writes(nil)), clock: 4, turn: going, behind: in(api.PhaseLook, writes(nil), word(5)), used: used{1, 0}},
		{name: "no cell", state: in(api.PhaseLoad, addr(3)), clock: 4, err: api.ErrRange},
		{name: "the greatest address", state: in(api.PhaseLoad, addr(top)), clock: 4, err: api.ErrRange},
	}, step)
}

// P7.4
func TestStepLook(t *testing.T) {
	state := in(api.PhaseLook, addr(1), word(77)) // what it has loaded, whatever is there now
	waits := in(api.PhaseWait, toLoad)
	full := in(api.PhaseLook, addr(1), word(1), reads(many(1023)), writes(nil))
	last := append(many(1023), api.Cell{Addr: 1, Word: 1})
	play(t, []scene{
		{name: "the clock is the snapshot", state: state, clock: 4, turn: read(1, 77), behind: in(api.PhaseIdle, reads(entries(0, 5, 2, 7, 1, 77))), used: used{0, 1}},
		{name: "of an address that was read", state: in(api.PhaseLook, writes(nil), word(9)), clock: 4, turn: read(0, 9), behind: in(api.PhaseIdle, writes(nil), reads(entries(0, 5, 2, 7, 0, 9))), used: used{0, 1}},
		{name: "of an address of no cell", state: in(api.PhaseLook, addr(9), word(1)), clock: 4, turn: read(9, 1), behind: in(api.PhaseIdle, reads(entries(0, 5, 2, 7, 9, 1))), used: used{0, 1}},
		{name: "the last entry that goes", state: full, clock: 4, turn: read(1, 1), behind: in(api.PhaseIdle, reads(last), writes(nil)), used: used{0, 1}},
		{name: "the greatest snapshot", state: in(api.PhaseLook, addr(1), word(0), snapshot(top-1)), clock: top - 1, turn: read(1, 0), behind: in(api.PhaseIdle, snapshot(top-1), reads(entries(0, 5, 2, 7, 1, 0))), used: used{0, 1}},
		{name: "the clock has gone on", state: state, clock: 6, turn: going, behind: waits, used: used{0, 1}},
		{name: "the clock is held there", state: state, clock: 5, turn: going, behind: waits, used: used{0, 1}},
		{name: "the clock is less", state: state, clock: 2, turn: going, behind: waits, used: used{0, 1}},
		{name: "the clock has gone round", state: in(api.PhaseLook, addr(1), snapshot(top-1)), clock: 0, turn: going, behind: in(api.PhaseWait, toLoad, snapshot(top-1)), used: used{0, 1}},
	}, step)
}

// P7.4
func TestStepWait(t *testing.T) {
	for name, aim := range map[string]func(*api.Attempt){"for a load": toLoad, "for the lock": toLock} {
		waits := in(api.PhaseWait, aim)
		play(t, []scene{
			{name: name + ": odd", state: waits, clock: 5, turn: going, behind: waits, used: used{0, 1}},
			{name: name + ": the greatest word", state: waits, clock: top, turn: going, behind: waits, used: used{0, 1}},
			{name: name + ": even", state: waits, clock: 6, turn: going, behind: in(api.PhaseCheck, aim, found(6)), used: used{0, 1}},
			{name: name + ": the snapshot itself", state: waits, clock: 4, turn: going, behind: in(api.PhaseCheck, aim, found(4)), used: used{0, 1}},
			{name: name + ": 0", state: waits, clock: 0, turn: going, behind: in(api.PhaseCheck, aim), used: used{0, 1}},
			{name: name + ": the greatest even one", state: waits, clock: top - 1, turn: going, behind: in(api.PhaseCheck, aim, found(top-1)), used: used{0, 1}},
			{name: name + ": nothing was read", state: in(api.PhaseWait, aim, reads(nil)), clock: 6, turn: going, behind: in(api.PhaseClose, aim, found(6), reads(nil)), used: used{0, 1}},
			{name: name + ": nothing was read, odd", state: in(api.PhaseWait, aim, reads(nil)), clock: 7, turn: going, behind: in(api.PhaseWait, aim, reads(nil)), used: used{0, 1}},
		}, step)
	}
}

// P7.4
func TestStepCheck(t *testing.T) {
	for name, aim := range map[string]func(*api.Attempt){"for a load": toLoad, "for the lock": toLock} {
		first, last := in(api.PhaseCheck, aim, found(6)), in(api.PhaseCheck, aim, found(6), at(1))
		away := entries(0, 5, 3, 7, 2, 7)
		play(t, []scene{
			{name: name + ": the next one", state: first, clock: 6, turn: going, behind: last, used: used{1, 0}},
			{name: name + ": behind the last", state: last, clock: 6, turn: going, behind: in(api.PhaseClose, aim, found(6)), used: used{1, 0}},
			{name: name + ": the clock is not asked", state: last, clock: 9, turn: going, behind: in(api.PhaseClose, aim, found(6)), used: used{1, 0}},
			{name: name + ": another word", state: first, words: []uint64{6, 6, 7}, clock: 6, turn: stale, behind: gone, used: used{1, 0}},
			{name: name + ": another word, of the last", state: last, words: []uint64{5, 6, 8}, clock: 6, turn: stale, behind: gone, used: used{1, 0}},
			{name: name + ": a word whose lower half is the entry's", state: last, words: []uint64{5, 6, 1<<32 | 7}, clock: 6, turn: stale, behind: gone, used: used{1, 0}},
			{name: name + ": another word, of an entry behind", state: first, words: []uint64{5, 6, 8}, clock: 6, turn: going, behind: last, used: used{1, 0}},
			{name: name + ": another word, of an entry ahead", state: last, words: []uint64{8, 6, 7}, clock: 6, turn: going, behind: in(api.PhaseClose, aim, found(6)), used: used{1, 0}},
			{name: name + ": no cell", state: in(api.PhaseCheck, aim, found(6), at(1), reads(away)), clock: 6, turn: stale, behind: gone, used: used{1, 0}},
			{name: name + ": no cell, of the word 0", state: in(api.PhaseCheck, aim, reads(entries(3, 0))), clock: 6, turn: stale, behind: gone, used: used{1, 0}},
			{name: name + ": in the middle", state: in(api.PhaseCheck, aim, at(1), reads(entries(0, 5, 1, 6, 2, 7))), clock: 6, turn: going, behind: in(api.PhaseCheck, aim, at(2), reads(entries(0, 5, 1, 6, 2, 7))), used: used{1, 0}},
		}, step)
	}
}

// P7.4
func TestStepClose(t *testing.T) {
	for name, k := range map[string]struct {
		aim    func(*api.Attempt)
		behind api.Attempt
	}{
		"for a load":   {toLoad, in(api.PhaseLoad, addr(1), snapshot(6))},
		"for the lock": {toLock, in(api.PhaseLock, snapshot(6))},
	} {
		closes := in(api.PhaseClose, k.aim, found(6))
		waits := in(api.PhaseWait, k.aim)
		at := func(word uint64) api.Attempt { return with(k.behind, snapshot(word)) }
		play(t, []scene{
			{name: name + ": as it was found", state: closes, clock: 6, turn: moved(6), behind: k.behind, used: used{0, 1}},
			{name: name + ": the snapshot that it was", state: in(api.PhaseClose, k.aim, found(4)), clock: 4, turn: moved(4), behind: at(4), used: used{0, 1}},
			{name: name + ": 0", state: in(api.PhaseClose, k.aim), clock: 0, turn: moved(0), behind: at(0), used: used{0, 1}},
			{name: name + ": the greatest", state: in(api.PhaseClose, k.aim, found(top-1)), clock: top - 1, turn: moved(top - 1), behind: at(top - 1), used: used{0, 1}},
			{name: name + ": further on", state: closes, clock: 8, turn: going, behind: waits, used: used{0, 1}},
			{name: name + ": held there", state: closes, clock: 7, turn: going, behind: waits, used: used{0, 1}},
			{name: name + ": the snapshot, which it is no more", state: closes, clock: 4, turn: going, behind: waits, used: used{0, 1}},
			{name: name + ": 0, which it was not", state: closes, clock: 0, turn: going, behind: waits, used: used{0, 1}},
		}, step)
	}
}

// P7.4
func TestStepLock(t *testing.T) {
	state, waits := in(api.PhaseLock), in(api.PhaseWait, toLock)
	play(t, []scene{
		{name: "the clock is the snapshot", state: state, clock: 4, turn: locked, behind: in(api.PhaseStore), set: 1, used: used{0, 1}},
		{name: "the greatest snapshot", state: in(api.PhaseLock, snapshot(top-1)), clock: top - 1, turn: locked, behind: in(api.PhaseStore, snapshot(top-1)), set: 1, used: used{0, 1}},
		{name: "the clock has gone on", state: state, clock: 6, turn: going, behind: waits, used: used{0, 1}},
		{name: "the clock is held there", state: state, clock: 5, turn: going, behind: waits, used: used{0, 1}},
		{name: "the clock is less", state: state, clock: 2, turn: going, behind: waits, used: used{0, 1}},
	}, step)
}

// P7.4
func TestStepStore(t *testing.T) {
	first, last := in(api.PhaseStore), in(api.PhaseStore, at(1))
	away := entries(2, 8, 3, 1, 0, 9)
	play(t, []scene{
		{name: "the next one", state: first, clock: 5, turn: going, behind: last, stored: []uint64{5, 6, 8}, used: used{1, 0}},
		{name: "behind the last", state: last, clock: 5, turn: going, behind: in(api.PhaseFree), stored: []uint64{9, 6, 7}, used: used{1, 0}},
		{name: "the clock is not asked", state: last, clock: 4, turn: going, behind: in(api.PhaseFree), stored: []uint64{9, 6, 7}, used: used{1, 0}},
		{name: "what was read is not asked", state: first, words: []uint64{1, 1, 1}, clock: 5, turn: going, behind: last, stored: []uint64{1, 1, 8}, used: used{1, 0}},
		{name: "no cell", state: in(api.PhaseStore, at(1), writes(away)), clock: 5, turn: going, behind: in(api.PhaseStore, at(2), writes(away)), used: used{1, 0}},
		{name: "no cell, behind the last", state: in(api.PhaseStore, writes(entries(top, 1))), clock: 5, turn: going, behind: in(api.PhaseFree, writes(entries(top, 1))), used: used{1, 0}},
		{name: "the last one of many", state: in(api.PhaseStore, at(1023), writes(many(1024))), words: make([]uint64, 1024), clock: 5, turn: going, behind: in(api.PhaseFree, writes(many(1024))), stored: append(make([]uint64, 1023), 3069), used: used{1, 0}},
	}, step)
}

// P7.4
func TestStepFree(t *testing.T) {
	state := in(api.PhaseFree)
	play(t, []scene{
		{name: "held at the snapshot", state: state, clock: 5, turn: committed(3), behind: gone, set: 1, used: used{0, 1}},
		{name: "held at 0", state: in(api.PhaseFree, snapshot(0)), clock: 1, turn: committed(1), behind: gone, set: 1, used: used{0, 1}},
		{name: "it goes round", state: in(api.PhaseFree, snapshot(top-1)), clock: top, turn: committed(0), behind: gone, set: 1, used: used{0, 1}},
		{name: "it goes round, not held there", state: in(api.PhaseFree, snapshot(top-1)), clock: 3, turn: committed(0), behind: gone, used: used{0, 1}},
		{name: "half of all words", state: in(api.PhaseFree, snapshot(1<<63)), clock: 1<<63 + 1, turn: committed(1<<62 + 1), behind: gone, set: 1, used: used{0, 1}},
		{name: "open at the snapshot", state: state, clock: 4, turn: committed(3), behind: gone, used: used{0, 1}},
		{name: "open behind it", state: state, clock: 6, turn: committed(3), behind: gone, used: used{0, 1}},
		{name: "held elsewhere", state: state, clock: 7, turn: committed(3), behind: gone, used: used{0, 1}},
	}, step)
}
