package part

import (
	"fmt"
	"maps"
	"testing"

	"parley/api"
)

// P26.6: drawn calls on queues, lists and parts of one room, held against plain lists: no call comes to what was taken out, and it has the words that it had, or that it was turned to.
func TestDrawnCalls(t *testing.T) {
	for n, cells := range []uint64{12, 20, 31, 60, 120} {
		for m, from := range []uint64{20, 0, top - cells, 1<<63 - 7} {
			t.Run(fmt.Sprint(cells, " from ", from), func(t *testing.T) {
				d := drawn(10*n + m)
				s := newShelf(from, from+cells)
				for range 1000 {
					s.step(t, &d, d.next())
				}
			})
		}
	}
}

// P26.6: all orders of some calls on one queue, one list and what was taken out of them.
func TestAllSmallOrders(t *testing.T) {
	const kinds, steps = 8, 4
	orders := 1
	for range steps {
		orders *= kinds
	}
	for code := range orders {
		s := newShelf(2, 30)
		s.lay(t, api.PartQueue)
		s.lay(t, api.PartList)
		s.put(t, 2, 50)
		s.put(t, 2, 51)
		s.insert(t, 5, 95)
		for n := range uint64(steps) {
			last := len(s.parts) - 1
			switch kind := code % kinds; {
			case kind == 0:
				s.put(t, 2, n)
			case kind == 1:
				s.take(t, 2)
			case kind == 2:
				s.insert(t, 5, 90-n)
			case kind == 3:
				s.takesOut(t, api.PartQueue, 2)
			case kind == 4:
				s.takesOut(t, api.PartList, 5)
			case last < 0:
			case kind == 5:
				s.turn(t, last, twice)
			case kind == 6:
				s.give(t, 0)
			default:
				s.layBack(t, last, 2)
			}
			code /= kinds
		}
	}
}

// P26.6: Back behind Queue is as if neither had been; behind Turn the queue has the words that f answered, and nothing else is changed.
func TestBackBehindQueue(t *testing.T) {
	eachPart(t, func(t *testing.T, w words, p api.Part, nodes, had []uint64) {
		if p.Kind != api.PartQueue {
			return
		}
		for _, q := range headers {
			before := hung(w, p, q, nodes)
			b := open(before)
			got := takesQueue(q)(b)
			if got != (answer{part: p}) {
				t.Fatalf("answers %v", got)
			}
			if got := lays(q, got.part)(b); got != nothing || !maps.Equal(b.words, before) {
				t.Errorf("Back answers %v: the cells are %v, not %v", got, b.words, before)
			}
			takesQueue(q)(b)
			turns(p, flips)(b)
			lays(q, p)(b)
			want := before.behind(nil)
			var turned []uint64
			for n, node := range nodes {
				want.set(node, ^had[n])
				turned = append(turned, ^had[n])
			}
			if !maps.Equal(b.words, want) {
				t.Errorf("the cells are %v, not %v", b.words, want)
			}
			holds(t, b.words, q, turned...)
		}
	})
}

// P26.6 by a tx that says no now and then: the block is given up, and the same call is made anew.
func TestBlocksThatAreGivenUp(t *testing.T) {
	d := drawn(12)
	s := newShelf(20, 90)
	s.lay(t, api.PartQueue)
	s.lay(t, api.PartList)
	for n := range 400 {
		kept := s.b.words.behind(nil)
		s.b.trace, s.b.no, s.b.err = nil, d.below(8), api.ErrStale
		calls := []call{takesQueue(20), takesList(23)}
		for _, o := range s.parts {
			calls = append(calls, gives(far, o.partOf()), lays(20, o.partOf()))
		}
		c := calls[d.below(len(calls))]
		if got := c(s.b); got.err != api.ErrStale && got.err != api.OK && got.err != api.ErrArg {
			t.Fatal(got)
		}
		s.b.trace, s.b.no, s.b.words = nil, -1, kept
		s.whole(t)
		s.step(t, &d, uint64(n))
	}
}
