package races

import (
	"slices"

	"parley/api"
	"parley/witness"
)

// none is the number of what is not there.
const none = -1

// row tells of each thread how many of its points, from its first one on, are ahead of something.
type row [api.MaxThreads]int

// join adds what another one tells.
func (r *row) join(other row) {
	for thread, count := range other {
		r[thread] = max(r[thread], count)
	}
}

// point is a plain access, or a block that is over.
type point struct {
	thread  int
	number  int  // among its thread's points
	writing bool // whether it is a writing block
	behind  row  // what is ahead of it
}

// past is a history that can be, with its points.
type past struct {
	h      []api.Event
	points []point               // as their first events stand
	of     []int                 // of each event its point, or none
	own    [api.MaxThreads][]int // of each thread its points
}

// recall takes a history apart, if it can be.
func recall(h []api.Event) (*past, api.Errno) {
	blocks, err := witness.Blocks(h)
	if err != api.OK {
		return nil, err
	}
	order, err := witness.Order(h)
	if err != api.OK {
		return nil, err
	}
	p := &past{h: h, of: slices.Repeat([]int{none}, len(h))}
	p.mark(blocks)
	p.settle(blocks, order)
	return p, api.OK
}

// mark finds the points. Blocks stand as their Begins do.
func (p *past) mark(blocks []api.Block) {
	for at, e := range p.h {
		switch e.Kind {
		case api.Begin:
			if b := blocks[0]; isOver(b) {
				p.claim(b.First, b.Last, b.Writing)
			}
			blocks = blocks[1:]
		case api.Loaded, api.Stored:
			p.claim(at, at, false)
		}
	}
}

// isOver tells whether a block has a place in the order.
func isOver(b api.Block) bool {
	return b.Kind == api.BlockCommitted || b.Kind == api.BlockAborted || b.Kind == api.BlockFailed
}

// claim makes a point of one thread's events from a place up to another one. There are as many blocks over an event as threads at most, so that this takes no long time in all.
func (p *past) claim(first, last int, writing bool) {
	thread, n := p.h[first].Thread, len(p.points)
	p.points = append(p.points, point{thread: thread, number: len(p.own[thread]), writing: writing})
	p.own[thread] = append(p.own[thread], n)
	for at := first; at <= last; at++ {
		if p.h[at].Thread == thread {
			p.of[at] = n
		}
	}
}

// settle finds what is ahead of each point: block by block in their order, ahead of each one its thread's points up to it.
func (p *past) settle(blocks []api.Block, order []int) {
	var next [api.MaxThreads]row // what is ahead of each thread's next point
	var done row                 // what is ahead of the next block by the order
	goOn := func(thread, upto int) {
		for ahead := &next[thread]; ahead[thread] < upto; ahead[thread]++ {
			p.points[p.own[thread][ahead[thread]]].behind = *ahead
		}
	}
	for _, n := range order {
		b := p.points[p.of[blocks[n].First]]
		goOn(b.thread, b.number)
		next[b.thread].join(done)
		goOn(b.thread, b.number+1)
		done = next[b.thread]
	}
	for thread, l := range p.own {
		goOn(thread, len(l))
	}
}

// has tells whether a number is of an event that belongs to a point.
func (p *past) has(e int) bool { return e >= 0 && e < len(p.of) && p.of[e] != none }

// ahead tells of two events that belong to points whether the one's point is ahead of the other one's.
func (p *past) ahead(e, f int) bool {
	a, b := &p.points[p.of[e]], &p.points[p.of[f]]
	return a.number < b.behind[a.thread]
}

// accesses is all accesses, as their events stand.
func (p *past) accesses() []api.Access {
	var l []api.Access
	for at, e := range p.h {
		if p.isAccess(at, e) {
			writes := e.Kind == api.Stored || e.Kind == api.Write
			plain := e.Kind == api.Stored || e.Kind == api.Loaded
			l = append(l, api.Access{Event: at, Thread: e.Thread, Addr: e.Addr, Writes: writes, Plain: plain})
		}
	}
	return l
}

// isAccess tells whether the event at a place is an access.
func (p *past) isAccess(at int, e api.Event) bool {
	switch e.Kind {
	case api.Loaded, api.Stored:
		return true
	case api.Read:
		return p.has(at) && !e.Own
	case api.Write:
		return p.has(at) && p.points[p.of[at]].writing
	}
	return false
}
