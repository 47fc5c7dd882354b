package skip

import (
	"fmt"
	"maps"
	"slices"
	"testing"

	"parley/api"
)

// level is a level that looks drawn: mostly as bits tell, now and then any number.
func (d *drawn) level() int {
	if d.below(4) == 0 {
		return d.below(14) - 3
	}
	return Level(d.next(), d.next(), d.next(), d.next(), d.next(), d.next(), d.next(), d.next())
}

// step makes one drawn call on one of the sets.
func (s *shelf) step(t *testing.T, d *drawn, x uint64) {
	t.Helper()
	sets := slices.Sorted(maps.Keys(s.sets))
	at := sets[d.below(len(sets))]
	switch n := d.below(40); {
	case n == 0 && len(sets) < 3:
		s.fresh(t)
	case n < 20:
		s.insert(t, at, x, d.level())
	case n < 34:
		s.remove(t, at, x)
	case n < 36:
		s.tellsAll(t, at)
	default:
		s.looks(t, at, x)
	}
}

// P22.7: drawn calls on sets of one room, with any levels, held against plain sets: each answer, each get and put, and all cells behind.
func TestDrawnCalls(t *testing.T) {
	some := []uint64{0, 1, 2, 3, 5, 8, 13, 21, 1<<63 - 1, 1 << 63, top - 2, top - 1, top}
	for n, p := range append(slices.Clone(places), place{0, 40, 60, 20}, place{0, 40, 43, 20}, place{0, 40, 50, 20}, place{900, 0, 400, 800}) {
		t.Run(fmt.Sprint(n), func(t *testing.T) {
			d := drawn(100 + n)
			s := newShelf(p)
			s.deep = false
			s.lay(t, p.at)
			for k := range 1500 {
				x := some[d.below(len(some))]
				if k%3 == 0 {
					x = d.next() % 40
				}
				s.step(t, &d, x)
			}
		})
	}
}

// P22.7: all orders of some calls on a set in a small room.
func TestAllSmallOrders(t *testing.T) {
	const kinds, steps = 8, 5
	orders := 1
	for range steps {
		orders *= kinds
	}
	for code := range orders {
		s := newShelf(place{30, 8, 19, 0})
		s.deep = false
		s.lay(t, 0)
		for range steps {
			switch k := uint64(code % kinds); {
			case k < 5:
				// 0 of the level 1, 0 of 4, 1 of 1, 1 of 2, 2 of 3.
				s.insert(t, 0, k/2, []int{1, 4, 1, 2, 3}[k])
			default:
				s.remove(t, 0, k-5)
			}
			code /= kinds
		}
	}
}

// P22.7, P0.6: levels change no answer: the same calls, with other levels, over sets with room enough, and a plain set beside them.
func TestLevelsChangeNoAnswer(t *testing.T) {
	kinds := []func(d *drawn) int{
		func(*drawn) int { return 1 },
		func(*drawn) int { return 8 },
		func(d *drawn) int { return d.level() },
		func(d *drawn) int { return int(d.next()) * (1 - 2*d.below(2)) },
		func(d *drawn) int { return 1 + d.below(8) },
	}
	var books []*book
	for range kinds {
		books = append(books, open(words{0: 40, 1: 10000}))
	}
	d, plain := drawn(77), map[uint64]uint64{}
	for range 4000 {
		x := d.next() % 60
		what := d.below(7)
		want := plainly(plain, what, x)
		for n, b := range books {
			b.trace = nil
			got := asked(what, x, kinds[n](&d))(b)
			if got != want {
				t.Fatalf("the call %d of %d answers %v by the levels of the kind %d, not %v", what, x, got, n, want)
			}
			if !got.has && puts(b.trace) > 0 || what > 1 && puts(b.trace) > 0 {
				t.Fatalf("the call %d of %d answers %v, and has put", what, x, got)
			}
		}
	}
}

// asked is the call of a number, on a set at 20 in a room at 0.
func asked(what int, x uint64, level int) call {
	return []call{insert(0, 20, x, level), remove(0, 20, x), has(20, x), after(20, x), first(20), keys(20), length(20)}[what]
}

// plainly is what that call must answer of a plain set, and does it there.
func plainly(plain map[uint64]uint64, what int, x uint64) answer {
	_, there := plain[x]
	rising := slices.Sorted(maps.Keys(plain))
	switch what {
	case 0:
		plain[x] = x
		return answer{has: !there}
	case 1:
		delete(plain, x)
		return answer{has: there}
	case 2:
		return answer{has: there}
	case 3:
		for _, w := range rising {
			if w > x {
				return tells(w)
			}
		}
		return no
	case 4:
		if len(rising) == 0 {
			return no
		}
		return tells(rising[0])
	case 5:
		return answer{list: text(rising)}
	}
	return answer{word: uint64(len(rising))}
}

// P22.7: Insert of a word that was not there, and then Remove of it, leave the header's links as they were; and all others.
func TestInsertAndRemove(t *testing.T) {
	for _, p := range places {
		for _, nodes := range some {
			s := set(p, nodes...)
			s.deep = false
			for _, x := range around(nodes) {
				for level := 1; level <= 8; level++ {
					c := s.copy()
					if !c.insert(t, p.at, x, level) {
						continue
					}
					c.remove(t, p.at, x)
					for k := range uint64(8) {
						if got, had := c.words[p.at+k], s.words[p.at+k]; got != had {
							t.Errorf("the header's link of the level %d has %d, and had %d", k, got, had)
						}
					}
					for here := range s.sets[p.at] {
						c.stands(t, p.at, here)
					}
				}
			}
		}
	}
}

// P22.7: calls on one set put nothing into cells of another one, and ask for none.
func TestSetsApart(t *testing.T) {
	d := drawn(6)
	s := newShelf(place{0, 40, 400, 20})
	s.deep = false
	s.lay(t, 20)
	s.fresh(t)
	s.fresh(t)
	sets := slices.Sorted(maps.Keys(s.sets))
	for range 1200 {
		at, x, level := sets[d.below(3)], d.next()%12, d.level()
		others := map[uint64]bool{}
		for _, other := range sets {
			if other != at {
				s.owns(other, others)
			}
		}
		c, out := insert(0, at, x, level), d.below(2) == 0
		if out {
			c = remove(0, at, x)
		}
		b := open(s.words)
		c(b)
		for _, a := range b.trace {
			if others[a.addr] {
				t.Fatalf("a call on the set at %d has asked for a cell of another one: %v", at, a)
			}
		}
		if out {
			s.remove(t, at, x)
		} else {
			s.insert(t, at, x, level)
		}
	}
}

// owns adds the cells of a set.
func (s *shelf) owns(at uint64, into map[uint64]bool) {
	for k := range uint64(8) {
		into[at+k] = true
	}
	for _, n := range s.sets[at] {
		for k := range uint64(n.level) + 2 {
			into[n.node+k] = true
		}
	}
}

// P0.6 by a tx that says no now and then: the block is given up, and the same call is made anew.
func TestBlocksThatAreGivenUp(t *testing.T) {
	d := drawn(12)
	s := newShelf(place{0, 40, 140, 20})
	s.deep = false
	s.lay(t, 20)
	for range 800 {
		x, level := d.next()%30, d.level()
		b := open(s.words)
		b.no, b.err = d.below(40), api.ErrStale
		if _, err := Insert(b, 0, 20, x, level); err != api.ErrStale && err != api.OK && err != api.ErrRoom {
			t.Fatal(err)
		}
		s.whole(t)
		s.insert(t, 20, x, level)
		s.remove(t, 20, d.next()%30)
	}
}
