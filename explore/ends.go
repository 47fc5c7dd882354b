package explore

import (
	"cmp"
	"slices"

	"parley/api"
)

// toldEnds is the numbers of the ends that are told, in their order: of those of which the same is told the first one.
func (x *space) toldEnds() []int {
	order := func(a, b int) int { return x.places[a].compareEnds(&x.places[b].state) }
	l := x.ends()
	slices.SortStableFunc(l, order)
	return slices.CompactFunc(l, func(a, b int) bool { return order(a, b) == 0 })
}

// compareEnds puts two ends of one script in order by what is told of them: not by the clock, nor by where threads are.
func (s *state) compareEnds(other *state) int {
	return cmp.Or(
		s.cells.compare(other.cells),
		s.compareThreads(other, func(t, o *stand) int { return cmp.Compare(t.Status, o.Status) }),
		s.compareThreads(other, func(t, o *stand) int { return cmp.Compare(t.Err, o.Err) }),
		s.compareThreads(other, func(t, o *stand) int { return slices.Compare(t.Regs[:], o.Regs[:]) }),
	)
}

// compareThreads puts two states of one script in order by the first thread in which they differ.
func (s *state) compareThreads(other *state, order func(t, o *stand) int) int {
	for n, t := range s.threads {
		if t == nil {
			break
		}
		if c := order(t, other.threads[n]); c != 0 {
			return c
		}
	}
	return 0
}

// end is what is told of an end.
func (x *space) end(n int) api.End {
	p := &x.places[n]
	e := api.End{Cells: p.cells.behind(nil), Picks: x.picks(n)}
	for _, t := range p.threads[:x.threads] {
		e.Status = append(e.Status, t.Status)
		e.Errs = append(e.Errs, t.Err)
		e.Regs = append(e.Regs, slices.Clone(t.Regs[:]))
	}
	return e
}

// sight is what Each tells of a state.
type sight struct {
	distance int
	cells    *row
}

// sights is what is told of the states up to a distance, in order.
func (x *space) sights(most int) []sight {
	var l []sight
	for n := range x.places {
		if p := &x.places[n]; p.distance <= most {
			l = append(l, sight{p.distance, p.cells})
		}
	}
	slices.SortFunc(l, func(a, b sight) int {
		return cmp.Or(cmp.Compare(a.distance, b.distance), a.cells.compare(b.cells))
	})
	return l
}
