package attempt

import (
	"iter"

	"parley/api"
	"parley/cells"
	"parley/logs"
	"parley/seq"
)

// stand is the phase, and what belongs to it. A step that leads to another phase writes it anew as a whole, so that what the new phase does not name is 0.
type stand struct {
	phase, then       api.Phase
	addr, word, found uint64
	at                int
}

// named is what the phase names of a stand, all else being 0.
func (s stand) named() stand {
	out := stand{phase: s.phase}
	switch s.phase {
	case api.PhaseLook:
		out.word = s.word
		fallthrough
	case api.PhaseLoad:
		out.addr = s.addr
	case api.PhaseCheck:
		out.at = s.at
		fallthrough
	case api.PhaseClose:
		out.found = s.found
		fallthrough
	case api.PhaseWait:
		out.then = s.then
		if s.then == api.PhaseLoad {
			out.addr = s.addr
		}
	case api.PhaseStore:
		out.at = s.at
	}
	return out
}

// validating tells whether a stand is within a validation.
func (s stand) validating() bool { return s.phase >= api.PhaseWait && s.phase <= api.PhaseClose }

// aim is the phase whose needs the logs must meet: where a validation leads to, else the phase itself.
func (s stand) aim() api.Phase {
	if s.validating() {
		return s.then
	}
	return s.phase
}

// mayBe asks what can be asked without the logs.
func (s stand) mayBe() bool {
	if s.phase < api.PhaseIdle || s.phase > api.PhaseOver || s != s.named() {
		return false
	}
	if s.validating() && s.then != api.PhaseLoad && s.then != api.PhaseLock {
		return false
	}
	return seq.Open(s.found)
}

// laid lays an attempt down over a row and a clock as a state says, whether that may be or not.
func laid(s api.Attempt, row *cells.Row, clock *seq.Clock) *Attempt {
	a := &Attempt{
		row:      row,
		clock:    clock,
		snapshot: s.Snapshot,
		stand:    stand{s.Phase, s.Then, s.Addr, s.Word, s.Found, s.At},
	}
	a.deeds = a.table()
	a.reads, _ = logs.NewReads(api.MaxReads)
	a.redo, _ = logs.NewRedo(api.MaxWrites)
	for _, entry := range s.Reads {
		a.reads.Add(entry.Addr, entry.Word)
	}
	for _, entry := range s.Writes {
		a.redo.Put(entry.Addr, entry.Word)
	}
	return a
}

// tookAll tells whether the logs have all entries of a state: one too many is refused, and a second one of an address in the redo log is none of its own.
func (a *Attempt) tookAll(s api.Attempt) bool {
	return a.reads.Len() == len(s.Reads) && a.redo.Len() == len(s.Writes)
}

// mayBe tells whether an attempt's state may be.
func (a *Attempt) mayBe() bool {
	if !a.stand.mayBe() || !seq.Open(a.snapshot) {
		return false
	}
	switch a.aim() {
	case api.PhaseOver:
		return a.snapshot == 0 && a.reads.Len() == 0 && a.redo.Len() == 0
	case api.PhaseLoad, api.PhaseLook:
		_, own := a.redo.Get(a.addr)
		return !own && a.reads.Len() < api.MaxReads && a.atEntry()
	case api.PhaseLock, api.PhaseStore, api.PhaseFree:
		return a.redo.Len() > 0 && a.atEntry()
	}
	return true
}

// atEntry tells whether At is the place of an entry, where the phase goes over entries.
func (a *Attempt) atEntry() bool {
	has := true
	switch a.phase {
	case api.PhaseCheck:
		_, has = a.reads.At(a.at)
	case api.PhaseStore:
		_, has = a.redo.At(a.at)
	}
	return has
}

// listed is a log's entries as a list of exactly so many.
func listed(n int, all iter.Seq2[int, api.Cell]) []api.Cell {
	if n == 0 {
		return nil
	}
	list := make([]api.Cell, n)
	for place, entry := range all {
		list[place] = entry
	}
	return list
}
