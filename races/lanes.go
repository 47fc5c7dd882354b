package races

import (
	"iter"
	"slices"
	"sort"

	"parley/api"
)

// lane is the accesses of one thread to one cell that are of one kind.
type lane struct {
	like   api.Access // any of them, but for its Event
	events []int      // rising: so their points are in order, too
}

// meets tells whether an access races with those of a lane that nothing orders with it.
func (l *lane) meets(a api.Access) bool {
	return l.like.Thread != a.Thread && (l.like.Plain || a.Plain) && (l.like.Writes || a.Writes)
}

// lanes parts accesses by their cells, and by what may race with what. So those that can't are never held against each other, however many they are.
func lanes(accesses []api.Access) map[uint64][]lane {
	cells := map[uint64][]lane{}
	for _, a := range accesses {
		like := a
		like.Event = 0
		l := cells[a.Addr]
		at := slices.IndexFunc(l, func(other lane) bool { return other.like == like })
		if at < 0 {
			at, l = len(l), append(l, lane{like: like})
			cells[a.Addr] = l
		}
		l[at].events = append(l[at].events, a.Event)
	}
	return cells
}

// races tells of each First of a race, rising, its Seconds.
func (p *past) races() iter.Seq2[int, []int] {
	return func(yield func(int, []int) bool) {
		accesses := p.accesses()
		cells := lanes(accesses)
		for _, a := range accesses {
			if l := p.seconds(a, cells[a.Addr]); len(l) > 0 && !yield(a.Event, l) {
				return
			}
		}
	}
}

// seconds is the later accesses of its cell with which an access races, rising.
func (p *past) seconds(a api.Access, cell []lane) []int {
	var l []int
pairs:
	for _, other := range cell {
		if !other.meets(a) {
			continue
		}
		for _, event := range p.notAhead(other.events, a.Event) {
			if p.ahead(a.Event, event) {
				continue pairs // it is ahead of all further ones of that thread, too
			}
			l = append(l, event)
		}
	}
	slices.Sort(l)
	return l
}

// notAhead is those of one thread's events that stand behind another event, and are not ahead of it.
func (p *past) notAhead(events []int, e int) []int {
	from := sort.Search(len(events), func(n int) bool { return events[n] > e && !p.ahead(events[n], e) })
	return events[from:]
}

// quiet tells whether there are no races.
func (p *past) quiet() bool {
	for range p.races() {
		return false
	}
	return true
}

// lastWrite is the last of the events ahead of a load that write its cell, if there are no races: all of them are in order then.
func (p *past) lastWrite(e int) int {
	last := none
	for _, l := range lanes(p.accesses())[p.h[e].Addr] {
		count := sort.Search(len(l.events), func(n int) bool { return !p.ahead(l.events[n], e) })
		if !l.like.Writes || count == 0 {
			continue
		}
		if event := l.events[count-1]; last == none || p.ahead(last, event) {
			last = event
		}
	}
	return last
}
