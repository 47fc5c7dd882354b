package list

import (
	"fmt"
	"maps"
	"slices"
	"testing"

	"parley/api"
	rooms "parley/room"
)

// shelf is a room with lists in it, and all of it as plain data: which cells were given back, the last one last, how many were never taken, and of each list its keys with their nodes.
type shelf struct {
	b    *book
	p    place
	next uint64
	back []uint64
	sets map[uint64]map[uint64]uint64 // by lists, by keys
}

func newShelf(p place) *shelf {
	return &shelf{b: open(laid(p)), p: p, next: p.from, sets: map[uint64]map[uint64]uint64{}}
}

// takes is the cells that must come next.
func (s *shelf) takes() (uint64, bool) {
	if n := len(s.back); n > 0 {
		addr := s.back[n-1]
		s.back = s.back[:n-1]
		return addr, true
	}
	if s.p.to-s.next < 2 {
		return 0, false
	}
	s.next += 2
	return s.next - 2, true
}

// does makes a call, and asks it for its answer; then all of the shelf.
func (s *shelf) does(t *testing.T, c call, want answer) {
	t.Helper()
	had := s.b.words.behind(nil)
	if got := c(s.b); got != want {
		t.Fatalf("answers %v, not %v", got, want)
	}
	if want.err != api.OK && !maps.Equal(had, s.b.words) {
		t.Fatalf("was refused, and has changed cells")
	}
	s.whole(t)
}

// whole asks the room, and each list, for what it has: by its cells and by its calls.
func (s *shelf) whole(t *testing.T) {
	t.Helper()
	given := slices.Clone(s.back)
	slices.Reverse(given)
	holds(t, s.b.words, s.p.room, s.p.to-s.next, given...)
	for l, set := range s.sets {
		rising := slices.Sorted(maps.Keys(set))
		is(t, s.b.words, l, rising...)
		for n, node := range chain(t, s.b.words, l) {
			if node != set[rising[n]] {
				t.Fatalf("the node of %d lies at %d, not at %d", rising[n], node, set[rising[n]])
			}
		}
		b := open(s.b.words)
		if got, want := keys(l)(b), (answer{list: text(rising)}); got != want {
			t.Fatalf("Keys answers %v, not %v", got, want)
		}
		if got, want := length(l)(b), (answer{word: uint64(len(set))}); got != want {
			t.Fatalf("Len answers %v, not %v", got, want)
		}
		if b.puts() > 0 {
			t.Fatal("who only looks has put")
		}
	}
}

func (s *shelf) lay(t *testing.T) {
	t.Helper()
	l, ok := s.takes()
	if !ok {
		s.does(t, lay(s.p.room), answer{err: api.ErrRoom})
		return
	}
	s.sets[l] = map[uint64]uint64{}
	s.does(t, lay(s.p.room), answer{word: l})
}

func (s *shelf) insert(t *testing.T, l, key uint64) {
	t.Helper()
	if _, there := s.sets[l][key]; there {
		s.does(t, insert(s.p.room, l, key), no)
		return
	}
	node, ok := s.takes()
	if !ok {
		s.does(t, insert(s.p.room, l, key), answer{err: api.ErrRoom})
		return
	}
	s.sets[l][key] = node
	s.does(t, insert(s.p.room, l, key), yes)
}

func (s *shelf) remove(t *testing.T, l, key uint64) {
	t.Helper()
	node, there := s.sets[l][key]
	if there {
		s.back = append(s.back, node)
		delete(s.sets[l], key)
	}
	s.does(t, remove(s.p.room, l, key), answer{has: there})
}

// emptied has given all nodes of a list back, and tells how many they were.
func (s *shelf) emptied(l uint64) uint64 {
	set := s.sets[l]
	for _, key := range slices.Sorted(maps.Keys(set)) {
		s.back = append(s.back, set[key])
	}
	s.sets[l] = map[uint64]uint64{}
	return uint64(len(set))
}

func (s *shelf) clear(t *testing.T, l uint64) {
	t.Helper()
	count := s.emptied(l)
	s.does(t, clearAll(s.p.room, l), answer{word: count})
}

func (s *shelf) drop(t *testing.T, l uint64) {
	t.Helper()
	s.emptied(l)
	delete(s.sets, l)
	s.back = append(s.back, l)
	s.does(t, drop(s.p.room, l), no)
}

// looks asks a list for one key.
func (s *shelf) looks(t *testing.T, l, key uint64) {
	t.Helper()
	rising := slices.Sorted(maps.Keys(s.sets[l]))
	at, there := slices.BinarySearch(rising, key)
	s.does(t, has(l, key), answer{has: there})
	least, next := no, no
	if len(rising) > 0 {
		least = tells(rising[0])
	}
	if there {
		at++
	}
	if at < len(rising) {
		next = tells(rising[at])
	}
	s.does(t, first(l), least)
	s.does(t, above(l, key), next)
}

// step makes one drawn call.
func (s *shelf) step(t *testing.T, d *drawn, key func() uint64) {
	t.Helper()
	lists := slices.Sorted(maps.Keys(s.sets))
	if len(lists) == 0 {
		s.lay(t)
		return
	}
	l := lists[d.below(len(lists))]
	switch n := d.below(40); {
	case n == 0:
		s.clear(t, l)
	case n == 1:
		s.drop(t, l)
	case n < 4:
		s.lay(t)
	case n < 22:
		s.insert(t, l, key())
	case n < 34:
		s.remove(t, l, key())
	default:
		s.looks(t, l, key())
	}
}

// P21.6: drawn calls on several lists of one room, held against plain sets.
func TestDrawnCalls(t *testing.T) {
	some := []uint64{0, 1, 2, 3, 5, 8, 13, 21, 1<<63 - 1, 1 << 63, top - 2, top - 1, top}
	for n, p := range append(places, place{0, 18, 118}, place{0, 18, 23}, place{0, 18, 20}, place{90, 0, 80}) {
		t.Run(fmt.Sprint(n), func(t *testing.T) {
			d := drawn(100 + n)
			s := newShelf(p)
			for k := range 1500 {
				s.step(t, &d, func() uint64 {
					if k%3 == 0 {
						return d.next() % 40
					}
					return some[d.below(len(some))]
				})
			}
		})
	}
}

// P21.6: all orders of some calls on a list in a small room.
func TestAllSmallOrders(t *testing.T) {
	const kinds, steps = 7, 5
	orders := 1
	for range steps {
		orders *= kinds
	}
	for code := range orders {
		s := newShelf(place{30, 2, 8})
		s.lay(t)
		for range steps {
			switch k := uint64(code % kinds); {
			case k < 3:
				s.insert(t, 2, k)
			case k < 6:
				s.remove(t, 2, k-3)
			default:
				s.clear(t, 2)
			}
			code /= kinds
		}
	}
}

// P21.6: the room has as many cells left as it had, less two, less two for each key: those that were never taken and those that were given back.
func TestWhatIsLeft(t *testing.T) {
	d := drawn(5)
	s := newShelf(place{0, 18, 218})
	s.lay(t)
	for range 400 {
		if key := d.next() % 60; d.below(2) == 0 {
			s.insert(t, 18, key)
		} else {
			s.remove(t, 18, key)
		}
		left, _ := rooms.Left(s.b, 0)
		given, _ := rooms.Given(s.b, 0, 2)
		if got, want := left+2*uint64(len(given)), 200-2-2*uint64(len(s.sets[18])); got != want {
			t.Fatalf("%d are left, not %d", got, want)
		}
	}
}

// P21.6: calls on one list put nothing into cells of another one, and ask for none.
func TestListsApart(t *testing.T) {
	d := drawn(6)
	s := newShelf(place{0, 18, 118})
	for range 3 {
		s.lay(t)
	}
	lists := slices.Sorted(maps.Keys(s.sets))
	for n := range 1200 {
		l := lists[d.below(3)]
		others := map[uint64]bool{}
		for _, other := range lists {
			if other == l {
				continue
			}
			others[other], others[other+1] = true, true
			for _, node := range s.sets[other] {
				others[node], others[node+1] = true, true
			}
		}
		s.b.trace = nil
		switch key := d.next() % 12; {
		case n%100 == 99:
			s.clear(t, l)
		case d.below(2) == 0:
			s.insert(t, l, key)
		default:
			s.remove(t, l, key)
		}
		for _, a := range s.b.trace {
			if others[a.addr] {
				t.Fatalf("a call on the list at %d has asked for a cell of another one: %v", l, a)
			}
		}
	}
}

// P21.6 by a tx that says no now and then: the block is given up, and the same call is made anew.
func TestBlocksThatAreGivenUp(t *testing.T) {
	d := drawn(12)
	s := newShelf(place{0, 18, 80})
	s.lay(t)
	for range 600 {
		kept, key := s.b.words.behind(nil), d.next()%30
		s.b.trace, s.b.no, s.b.err = nil, d.below(12), api.ErrStale
		if _, err := Insert(s.b, 0, 18, key); err != api.ErrStale && err != api.OK && err != api.ErrRoom {
			t.Fatal(err)
		}
		s.b.trace, s.b.no, s.b.words = nil, -1, kept
		s.whole(t)
		s.insert(t, 18, key)
		s.remove(t, 18, d.next()%30)
	}
}
