package rank

import (
	"maps"
	"slices"
	"testing"

	"parley/api"
	rooms "parley/room"
)

// rows is entries of heaps: none, one, many; one of them several times; noughts, infinities, NaN, the least and the greatest word.
var rows = [][]entry{
	nil,
	{of(2.5, 7)},
	{of(nan, top)},
	{of(1, 1), of(1, 1)},
	{of(2, 5), of(1, 6)},
	{of(1, 6), of(1, 5), of(2, 0)},
	{of(0, 1), of(minus, 1), of(minus, 0), of(0, 0)},
	{of(nan, 0), of(inf, 0), of(-inf, 0), of(nan, top), of(inf, top), of(-inf, top)},
	{of(1, 0), of(2, 0), of(3, 0), of(4, 0), of(5, 0), of(6, 0), of(7, 0)},
	{of(7, 0), of(6, 0), of(5, 0), of(4, 0), of(3, 0), of(2, 0), of(1, 0)},
	{of(4, top), of(4, 0), of(-4, top), of(5e-324, 1), of(-5e-324, 1), of(4, 1<<63), of(4, 1<<63-1), of(1.5, 3), of(4, 0)},
}

// some is entries that are put into all of these.
var some = []entry{
	of(2.5, 7), of(1, 1), of(minus, 0), of(0, top), of(inf, 1), of(-inf, top), of(nan, 0), of(nan, top), of(-1e308, 1<<63), of(4, 0),
}

// P24.2: Push into a heap without entries and into those with some: an entry more, in a piece of five cells of the room.
func TestPush(t *testing.T) {
	for _, p := range places {
		for _, s := range splits {
			for _, list := range rows {
				for _, e := range some {
					w, h := built(p, s, list...)
					w = asks(t, w, push(p.room, h, e), nothing)
					is(t, w, h, append(slices.Clone(list), e)...)
					holds(t, w, p.room, p.to-nodeAt(h, len(list)+1))
					nodes := w.nodes(t, h)
					slices.Sort(nodes)
					want := []uint64{}
					for n := range len(list) + 1 {
						want = append(want, nodeAt(h, n))
					}
					slices.Sort(want)
					if !slices.Equal(nodes, want) {
						t.Errorf("the nodes lie at %v, not at %v", nodes, want)
					}
				}
			}
		}
	}
}

// P24.2: the same entry several times.
func TestPushOfTheSame(t *testing.T) {
	for _, p := range places {
		for _, e := range []entry{of(0, 0), of(minus, 0), of(2.5, 3), of(nan, top), of(-inf, 0)} {
			w, h := built(p, halves)
			var list []entry
			for range 8 {
				w = asks(t, w, push(p.room, h, e), nothing)
				list = append(list, e)
				is(t, w, h, list...)
				looks(t, w, firstOf(h), tells(e))
			}
			looks(t, w, allOf(h), lists(list...))
			for n := range list {
				w = asks(t, w, pop(p.room, h), tells(e))
				is(t, w, h, list[n+1:]...)
			}
			looks(t, w, pop(p.room, h), nothing)
		}
	}
}

// P24.2: Pop of the only entry, of one of many, of none: the first one in the order; its cells are given back.
func TestPop(t *testing.T) {
	for _, p := range places {
		for _, s := range splits {
			for _, list := range rows {
				w, h := built(p, s, list...)
				if len(list) == 0 {
					looks(t, w, pop(p.room, h), nothing)
					continue
				}
				rising, root := inOrder(list...), w[h+1]-1
				w = asks(t, w, pop(p.room, h), tells(rising[0]))
				is(t, w, h, rising[1:]...)
				holds(t, w, p.room, p.to-nodeAt(h, len(list)), root)
			}
		}
	}
}

// P24.2, P24.5: entries that are popped one by one come in the order; then there is none, and entries go in again.
func TestPopAll(t *testing.T) {
	for _, p := range places {
		for _, s := range splits {
			for _, list := range rows {
				w, h := built(p, s, list...)
				rising := inOrder(list...)
				var given []uint64
				for n, e := range rising {
					given = slices.Insert(given, 0, w[h+1]-1)
					w = asks(t, w, pop(p.room, h), tells(e))
					is(t, w, h, rising[n+1:]...)
				}
				looks(t, w, pop(p.room, h), nothing)
				looks(t, w, pop(p.room, h), nothing)
				holds(t, w, p.room, p.to-nodeAt(h, len(list)), given...)
				w = asks(t, w, push(p.room, h, of(8, 1)), nothing)
				w = asks(t, w, push(p.room, h, of(-8, 1)), nothing)
				is(t, w, h, of(-8, 1), of(8, 1))
			}
		}
	}
}

// P24.2: which cells come next out of the room: those that Pop has given back last, then those that were never taken.
func TestWhichCellsComeNext(t *testing.T) {
	for _, p := range places {
		w, h := built(p, halves, of(3, 0), of(1, 0), of(2, 0))
		w = asks(t, w, pop(p.room, h), tells(of(1, 0)))
		w = asks(t, w, pop(p.room, h), tells(of(2, 0)))
		for n, node := range []int{2, 1, 3, 4} {
			had := w.nodes(t, h)
			w = asks(t, w, push(p.room, h, of(float64(10-n), 0)), nothing)
			for _, at := range w.nodes(t, h) {
				if !slices.Contains(had, at) && at != nodeAt(h, node) {
					t.Errorf("the node lies at %d, not at %d", at, nodeAt(h, node))
				}
			}
		}
		is(t, w, h, of(3, 0), of(10, 0), of(9, 0), of(8, 0), of(7, 0))
	}
}

// P24.2: the cells of a node that was another's ahead have no words of it.
func TestPushIntoGivenCells(t *testing.T) {
	for _, p := range places {
		for _, s := range splits {
			for _, list := range rows {
				w, h := built(p, s, list...)
				b := open(w)
				piece, err := rooms.Take(b, p.room, 5)
				if err != api.OK {
					t.Fatal(err)
				}
				for n := range uint64(5) {
					b.Put(piece+n, h+1+n)
				}
				rooms.Give(b, p.room, piece, 5)
				for _, e := range some {
					after := asks(t, b.words, push(p.room, h, e), nothing)
					is(t, after, h, append(slices.Clone(list), e)...)
					holds(t, after, p.room, p.to-nodeAt(h, len(list)+1))
				}
			}
		}
	}
}

// P24.1, P24.2: Push when no cells are left: ErrRoom, nothing was put; an entry that was popped leaves some.
func TestPushWithoutRoom(t *testing.T) {
	for _, p := range places {
		for extra := range uint64(5) {
			for many := range 4 {
				p.to = p.from + 2 + 5*uint64(many) + extra
				list := []entry{of(7, 1), of(3, 2), of(5, 3)}[:many]
				w, h := built(p, halves, list...)
				for _, e := range some {
					after := asks(t, w, push(p.room, h, e), answer{err: api.ErrRoom})
					if !maps.Equal(after, w) {
						t.Errorf("Push was refused, and has changed cells")
					}
				}
				if many == 0 {
					continue
				}
				rising := inOrder(list...)
				w = asks(t, w, pop(p.room, h), tells(rising[0]))
				w = asks(t, w, push(p.room, h, of(4, 4)), nothing)
				is(t, w, h, append(rising[1:], of(4, 4))...)
				holds(t, w, p.room, extra)
			}
		}
	}
}

// P24.3: Join of two heaps, of which one, or both, have no entry: all entries are the one's; the room is asked nothing.
func TestJoin(t *testing.T) {
	for k, p := range places {
		p.to = p.from + 100
		if p.to < p.from {
			p.from, p.to = top-100, top
		}
		for _, s := range splits {
			for n, list := range rows {
				for m, others := range rows {
					if (n+m+k)%2 > 0 && k > 0 {
						continue
					}
					w, h, g := both(p, s, list, others)
					c := joins(h, g)
					if (n+m)%3 == 0 {
						h, g, list, others = g, h, others, list
						c = joins(h, g)
					}
					sum := append(slices.Clone(list), others...)
					had := append(w.nodes(t, h), w.nodes(t, g)...)
					if len(others) == 0 {
						looks(t, w, c, nothing)
						is(t, w, h, list...)
						continue
					}
					w = asks(t, w, c, nothing)
					is(t, w, h, sum...)
					is(t, w, g)
					has := w.nodes(t, h)
					slices.Sort(had)
					slices.Sort(has)
					if !slices.Equal(had, has) {
						t.Errorf("the nodes are %v, not %v", has, had)
					}
					looks(t, w, allOf(h), lists(inOrder(sum...)...))
					looks(t, w, allOf(g), lists())
					looks(t, w, length(h), answer{word: uint64(len(sum))})
					looks(t, w, length(g), answer{word: 0})
					looks(t, w, c, nothing)
				}
			}
		}
	}
}

// P24.3: Join of a heap with itself: ErrArg, whatever it has, and whatever the tx answers.
func TestJoinWithItself(t *testing.T) {
	for _, p := range places {
		for _, list := range rows {
			w, h := built(p, halves, list...)
			b := open(w)
			if got := joins(h, h)(b); got != (answer{err: api.ErrArg}) || b.puts() > 0 {
				t.Errorf("answers %v behind %v", got, b.trace)
			}
			is(t, b.words, h, list...)
		}
	}
	b := open(words{})
	b.no, b.err = 0, api.ErrStale
	if got := joins(20, 20)(b); got != (answer{err: api.ErrArg}) {
		t.Errorf("answers %v", got)
	}
}

// P24.3: what was joined comes out in the order, and both heaps go on.
func TestPopBehindJoin(t *testing.T) {
	p := place{0, 18, 200}
	for _, s := range splits {
		for _, list := range rows {
			w, h, g := both(p, s, list, rows[len(rows)-1])
			w = asks(t, w, joins(h, g), nothing)
			w = asks(t, w, push(p.room, g, of(-7, 7)), nothing)
			is(t, w, g, of(-7, 7))
			for _, e := range inOrder(append(slices.Clone(list), rows[len(rows)-1]...)...) {
				w = asks(t, w, pop(p.room, h), tells(e))
				is(t, w, g, of(-7, 7))
			}
			looks(t, w, pop(p.room, h), nothing)
			w = asks(t, w, joins(h, g), nothing)
			is(t, w, h, of(-7, 7))
			is(t, w, g)
		}
	}
}

// P24.2, P24.3: all pushes, pops and joins of two heaps, in all small orders, each asked with a tx that says no.
func TestAllSmallOrders(t *testing.T) {
	const kinds, steps = 5, 5
	orders := 1
	for range steps {
		orders *= kinds
	}
	p := place{60, 2, 2 + 4 + 3*5}
	const h, g = 2, 4
	for code := range orders {
		w := laid(p)
		w.set(p.room, 6)
		sow(w, h, halves)
		sow(w, g, halves)
		has := map[uint64][]entry{}
		for n := range steps {
			e := of(float64(n*3%5), uint64(n))
			switch k := code % kinds; k {
			case 0, 1:
				at := []uint64{h, g}[k]
				if len(has[h])+len(has[g]) == 3 {
					w = asks(t, w, push(p.room, at, e), answer{err: api.ErrRoom})
					break
				}
				w = asks(t, w, push(p.room, at, e), nothing)
				has[at] = inOrder(append(has[at], e)...)
			case 2, 3:
				at := []uint64{h, g}[k-2]
				if len(has[at]) == 0 {
					looks(t, w, pop(p.room, at), nothing)
					break
				}
				w = asks(t, w, pop(p.room, at), tells(has[at][0]))
				has[at] = has[at][1:]
			default:
				w = asks(t, w, joins(h, g), nothing)
				has[h], has[g] = inOrder(append(has[h], has[g]...)...), nil
			}
			code /= kinds
			is(t, w, h, has[h]...)
			is(t, w, g, has[g]...)
		}
	}
}
