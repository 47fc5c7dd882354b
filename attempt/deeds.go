package attempt

import (
	"parley/api"
	"parley/seq"
)

// deed is what a phase does.
type deed struct {
	do func() (api.Turn, api.Errno)
}

// deeds has a deed for each phase in which there is something to do.
type deeds [1 + api.PhaseOver]deed

// table makes an attempt's own deeds.
func (a *Attempt) table() deeds {
	return deeds{
		api.PhaseLoad:  {a.load},
		api.PhaseLook:  {a.look},
		api.PhaseWait:  {a.wait},
		api.PhaseCheck: {a.check},
		api.PhaseClose: {a.close},
		api.PhaseLock:  {a.lock},
		api.PhaseStore: {a.store},
		api.PhaseFree:  {a.free},
	}
}

func (a *Attempt) load() (api.Turn, api.Errno) {
	if !a.row.Has(a.addr) {
		return api.Turn{}, api.ErrRange
	}
	return a.fetch(a.addr), api.OK
}

func (a *Attempt) look() (api.Turn, api.Errno) {
	word, _ := a.clock.Load()
	if word != a.snapshot {
		return a.goOn(stand{phase: api.PhaseWait, then: api.PhaseLoad, addr: a.addr})
	}
	turn := got(loadedWord, a.addr, a.word)
	a.reads.Add(a.addr, a.word) // a get begins only where there is room for its entry
	a.stand = stand{phase: api.PhaseIdle}
	return turn, api.OK
}

func (a *Attempt) wait() (api.Turn, api.Errno) {
	word, _ := a.clock.Load()
	if !seq.Open(word) {
		return a.goOn(a.stand)
	}
	return a.goOn(a.checkAt(0, word))
}

func (a *Attempt) check() (api.Turn, api.Errno) {
	entry, _ := a.reads.At(a.at)
	word, err := a.row.Load(entry.Addr)
	if err != api.OK || word != entry.Word {
		a.over()
		return told(api.OutStale, api.Stale, 0), api.OK
	}
	return a.goOn(a.checkAt(a.at+1, a.found))
}

func (a *Attempt) close() (api.Turn, api.Errno) {
	word, _ := a.clock.Load()
	if word != a.found {
		return a.goOn(stand{phase: api.PhaseWait, then: a.then, addr: a.addr})
	}
	a.snapshot = word
	a.stand = stand{phase: a.then, addr: a.addr}
	return told(api.OutGoing, api.Moved, word), api.OK
}

func (a *Attempt) lock() (api.Turn, api.Errno) {
	if taken, _ := a.clock.Take(a.snapshot); !taken {
		return a.goOn(stand{phase: api.PhaseWait, then: api.PhaseLock})
	}
	a.stand = stand{phase: api.PhaseStore}
	return told(api.OutGoing, api.Locked, 0), api.OK
}

func (a *Attempt) store() (api.Turn, api.Errno) {
	entry, _ := a.redo.At(a.at)
	a.row.Store(entry.Addr, entry.Word) // a row without that cell refuses it, which is as it should be
	if next := a.at + 1; next < a.redo.Len() {
		return a.goOn(stand{phase: api.PhaseStore, at: next})
	}
	return a.goOn(stand{phase: api.PhaseFree})
}

func (a *Attempt) free() (api.Turn, api.Errno) {
	a.clock.Leave(a.snapshot) // a clock that is not held there stays as it is
	return a.commit(a.snapshot + 2), api.OK
}

// fetch loads a get's cell. Whether its word stands together with those read before, the look at the clock tells.
func (a *Attempt) fetch(addr uint64) api.Turn {
	word, _ := a.row.Load(addr)
	turn, _ := a.goOn(stand{phase: api.PhaseLook, addr: addr, word: word})
	return turn
}

// checkAt is where a validation stands that is to look at that entry next: behind the last one it closes.
func (a *Attempt) checkAt(place int, found uint64) stand {
	if place < a.reads.Len() {
		return stand{phase: api.PhaseCheck, then: a.then, addr: a.addr, found: found, at: place}
	}
	return stand{phase: api.PhaseClose, then: a.then, addr: a.addr, found: found}
}

// goOn ends a step of which there is nothing to tell.
func (a *Attempt) goOn(next stand) (api.Turn, api.Errno) {
	a.stand = next
	return api.Turn{Out: api.OutGoing}, api.OK
}

// commit ends an attempt that has committed at this word of the clock.
func (a *Attempt) commit(word uint64) api.Turn {
	a.over()
	return told(api.OutCommitted, api.Committed, seq.Number(word))
}

// over leaves nothing of an attempt but that it was there: nothing else is asked of it any more.
func (a *Attempt) over() { *a = Attempt{stand: stand{phase: api.PhaseOver}} }

// told is how a step ends by which something took place.
func told(out api.Out, kind api.EventKind, word uint64) api.Turn {
	return api.Turn{Out: out, Event: api.Event{Kind: kind, Word: word}}
}

// source is where a get has found its word.
type source int

const (
	ownWord source = iota
	loadedWord
)

// got is how a get ends: one of an own word as that of a loaded one, but that it says so.
func got(from source, addr, word uint64) api.Turn {
	turn := api.Turn{Out: api.OutGot, Word: word}
	switch from {
	case ownWord:
		turn.Event.Own = true
		fallthrough
	case loadedWord:
		turn.Event.Kind = api.Read
		turn.Event.Addr, turn.Event.Word = addr, word
	}
	return turn
}
