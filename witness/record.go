package witness

import (
	"cmp"
	"slices"

	"parley/api"
	"parley/events"
)

// part is a block with what of it the order and its own end hang on besides.
type part struct {
	api.Block
	since  int  // the place of its last Begin or Moved
	locked bool // whether it has a Locked: it is a writing one only once it has committed
}

// record is a history that can be, cut into its blocks.
type record struct {
	parts []part
	going map[int]int // the threads whose blocks are going on, and which these are
	plain bool        // whether there is a plain access, one that failed too
}

// gather cuts a history.
func gather(h []api.Event) (*record, api.Errno) {
	if odd := events.Check(h); odd.Err != api.OK {
		return nil, odd.Err
	}
	r := &record{going: map[int]int{}}
	for at, e := range h {
		r.take(at, e)
	}
	return r, api.OK
}

// take goes on by the event at a place.
func (r *record) take(at int, e api.Event) {
	if e.Kind == api.Begin {
		r.going[e.Thread] = len(r.parts)
		r.parts = append(r.parts, part{Block: api.Block{Thread: e.Thread, First: at}})
	}
	n, inside := r.going[e.Thread]
	if !inside {
		// In a history that can be a thread outside has nothing but plain accesses and its halt.
		r.plain = r.plain || e.Kind != api.Halted
		return
	}
	p := &r.parts[n]
	if p.note(at, e); p.Kind != api.BlockOpen {
		delete(r.going, e.Thread)
	}
}

// note adds to a block its event at a place.
func (p *part) note(at int, e api.Event) {
	p.Last = at
	switch e.Kind {
	case api.Begin, api.Moved:
		p.Kind, p.Number, p.since = api.BlockOpen, e.Word/2, at
	case api.Read:
		if !e.Own {
			p.Reads = append(p.Reads, api.Entry{Addr: e.Addr, Word: e.Word})
		}
	case api.Write:
		p.Writes = append(p.Writes, api.Entry{Addr: e.Addr, Word: e.Word})
	case api.Locked:
		p.locked = true
	case api.Committed:
		// Of one that read alone the word is half of its last snapshot already, or the history could not be.
		p.Kind, p.Number, p.Writing = api.BlockCommitted, e.Word, p.locked
	case api.Aborted:
		p.Kind = api.BlockAborted
	case api.Failed:
		p.Kind, p.Err = api.BlockFailed, e.Err
	case api.Stale:
		p.Kind = api.BlockStale
	}
}

// over tells whether a block has a place in the order.
func (p *part) over() bool {
	return p.Kind == api.BlockCommitted || p.Kind == api.BlockAborted || p.Kind == api.BlockFailed
}

// has tells whether a number is a block's place.
func (r *record) has(n int) bool { return n >= 0 && n < len(r.parts) }

// order is the places of the blocks that are over, in the order. No two of them are alike there, since none have their last Begin or Moved in common: so it does not hang on how the sort goes.
func (r *record) order() []int {
	var l []int
	for n := range r.parts {
		if r.parts[n].over() {
			l = append(l, n)
		}
	}
	slices.SortFunc(l, func(a, b int) int {
		p, q := &r.parts[a], &r.parts[b]
		return cmp.Or(cmp.Compare(p.Number, q.Number), cmp.Compare(p.rank(), q.rank()), cmp.Compare(p.since, q.since))
	})
	return l
}

// rank puts the writing one ahead of the others of its number: they have seen what it wrote.
func (p *part) rank() int {
	if p.Writing {
		return 0
	}
	return 1
}
