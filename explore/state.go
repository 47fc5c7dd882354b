package explore

import (
	"slices"

	"parley/api"
)

// state is a script's cells, its clock and its threads; what has no thread is nil. Rows and threads stand on shelves, so that two states that are the same are made of the same.
type state struct {
	cells   *row
	clock   uint64
	threads [api.MaxThreads]*stand
}

// sums is a sum of each thing that a state is made of: its cells, its clock, its threads.
type sums [2 + api.MaxThreads]uint64

// sums is its sums.
func (s *state) sums() sums {
	l := sums{s.cells.sum, s.clock}
	for n, t := range s.threads {
		if t != nil {
			l[2+n] = t.sum
		}
	}
	return l
}

// runs tells whether a thread is there, and Running.
func (s *state) runs(n int) bool {
	return s.threads[n] != nil && s.threads[n].Status == api.Running
}

// isEnd tells whether no thread is Running.
func (s *state) isEnd() bool {
	for n := range s.threads {
		if s.runs(n) {
			return false
		}
	}
	return true
}

// stand is a thread as plain data, with its sum. Nobody changes it.
type stand struct {
	api.Thread
	sum uint64
}

// stands is a shelf of threads.
type stands struct{ shelf[stand] }

func newStands() stands { return stands{newShelf(sameStand)} }

// put sums a thread up, and puts it there.
func (h stands) put(t api.Thread) *stand {
	sum := uint64(0)
	for _, word := range fixed(&t) {
		sum = mixed(sum, word)
	}
	for _, log := range [2][]api.Cell{t.Attempt.Reads, t.Attempt.Writes} {
		for _, entry := range log {
			sum = mixed(mixed(sum, entry.Addr), entry.Word)
		}
	}
	return h.keep(sum, &stand{t, sum})
}

// sameStand tells whether two threads are the same.
func sameStand(t, other *stand) bool {
	a, b := &t.Attempt, &other.Attempt
	return fixed(&t.Thread) == fixed(&other.Thread) && slices.Equal(a.Reads, b.Reads) && slices.Equal(a.Writes, b.Writes)
}

// numbers is how many words a thread has beside its registers, its attempt's logs being told by their lengths.
const numbers = 15

// fixed is all of a thread but what its attempt's logs have.
func fixed(t *api.Thread) [numbers + 2*api.Regs]uint64 {
	a := &t.Attempt
	l := [numbers + 2*api.Regs]uint64{
		uint64(t.Status), uint64(t.Err), uint64(t.At), truth(t.Inside), uint64(t.Start), uint64(t.Fuel),
		a.Snapshot, uint64(a.Phase), uint64(a.Then), a.Addr, a.Word, a.Found, uint64(a.At),
		uint64(len(a.Reads)), uint64(len(a.Writes)),
	}
	copy(l[numbers:], t.Regs[:])
	copy(l[numbers+api.Regs:], t.Saved[:])
	return l
}

// truth is a truth as a word.
func truth(yes bool) uint64 {
	if yes {
		return 1
	}
	return 0
}
