package events

import "parley/api"

// state is how a thread is, by the turns that it has had.
type state int

const (
	never state = iota // no thread is so: a turn that leads here may not be
	outside
	inside
	holding
	over
)

// turns is to which state each kind of event leads from each state.
var turns = [...][api.Halted + 1]state{
	outside: {
		api.Begin: inside, api.Loaded: outside, api.Stored: outside, api.Failed: over, api.Halted: over,
	},
	inside: {
		api.Read: inside, api.Write: inside, api.Moved: inside, api.Locked: holding,
		api.Committed: outside, api.Stale: outside, api.Aborted: outside, api.Failed: over,
	},
	holding: {api.Committed: outside},
	over:    {},
}

// course is how all stands behind the events that were gone over: the number, whether the lock is held, the threads.
type course struct {
	number  uint64
	held    bool
	threads [api.MaxThreads]side
}

// side is how one thread stands, with its attempt's last snapshot and the last word of each address of its Writes.
type side struct {
	state    state
	snapshot uint64
	writes   map[uint64]uint64
}

// start is how all stands ahead of the first event.
func start() *course {
	c := &course{}
	for n := range c.threads {
		c.threads[n].state = outside
	}
	return c
}

// refusal says why an event can't be the next one; OK, if it can. The order of its questions is the promise's, and each leans on those ahead: an event that is not in form may have no thread and no kind.
func (c *course) refusal(e api.Event) api.Errno {
	if !formed(e) {
		return api.ErrForm
	}
	s := &c.threads[e.Thread]
	switch {
	case s.turn(e) == never:
		return api.ErrTurn
	case c.locked(e.Kind):
		return api.ErrLock
	case !c.numbered(s, e):
		return api.ErrNumber
	case !s.owned(e):
		return api.ErrOwn
	}
	return api.OK
}

// turn is the state to which an event leads. Outside nothing but a plain access fails, and that for want of its cell alone.
func (s *side) turn(e api.Event) state {
	if s.state == outside && e.Kind == api.Failed && e.Err != api.ErrRange {
		return never
	}
	return turns[s.state][e.Kind]
}

// locked tells whether the lock stands against an event of a kind. The thread that holds it may not have these kinds as its turns, so if it is held, it is held by another one.
func (c *course) locked(kind api.EventKind) bool {
	return c.held && (kind == api.Begin || kind == api.Moved || kind == api.Locked)
}

// numbered tells whether an event of that thread agrees with the number and with its attempt's snapshot.
func (c *course) numbered(s *side, e api.Event) bool {
	switch e.Kind {
	case api.Begin:
		return e.Word == 2*c.number
	case api.Moved:
		return e.Word == 2*c.number && e.Word > s.snapshot
	case api.Locked:
		return s.snapshot == 2*c.number
	case api.Committed:
		if s.state == holding {
			return e.Word == c.number+1
		}
		return e.Word == s.snapshot/2
	}
	return true
}

// owned tells whether an event agrees with the Writes of its attempt.
func (s *side) owned(e api.Event) bool {
	switch e.Kind {
	case api.Read:
		word, has := s.writes[e.Addr]
		if e.Own {
			return has && word == e.Word
		}
		return !has
	case api.Locked:
		return len(s.writes) > 0
	case api.Committed:
		return s.state == holding || len(s.writes) == 0
	}
	return true
}

// take goes on behind an event that can be the next one.
func (c *course) take(e api.Event) {
	s := &c.threads[e.Thread]
	switch e.Kind {
	case api.Begin:
		s.snapshot = e.Word
		s.writes = nil // and not cleared: that would cost each later attempt what the longest one wrote
	case api.Moved:
		s.snapshot = e.Word
	case api.Write:
		if s.writes == nil {
			s.writes = map[uint64]uint64{}
		}
		s.writes[e.Addr] = e.Word
	case api.Locked:
		c.held = true
	case api.Committed:
		if s.state == holding {
			c.held = false
			c.number++
		}
	}
	s.state = s.turn(e)
}
