package rank

import (
	"fmt"
	"maps"
	"slices"
	"testing"

	"parley/api"
	rooms "parley/room"
)

// piece is cells of a room that somebody else has, with what was written into them.
type piece struct {
	addr  uint64
	words []uint64
}

// shelf is a room with heaps in it, and all of it as plain data: which pieces of each size were given back, the last one last, from where on cells were never taken, each heap's entries in the order, and its nodes, and pieces of others.
type shelf struct {
	b      *book
	p      place
	next   uint64
	back   [6][]uint64 // by sizes, up to 5
	heaps  map[uint64][]entry
	nodes  map[uint64][]uint64
	others []piece
}

func newShelf(p place) *shelf {
	return &shelf{b: open(laid(p)), p: p, next: p.from, heaps: map[uint64][]entry{}, nodes: map[uint64][]uint64{}}
}

// takes is the cells that must come next.
func (s *shelf) takes(size uint64) (uint64, bool) {
	if n := len(s.back[size]); n > 0 {
		addr := s.back[size][n-1]
		s.back[size] = s.back[size][:n-1]
		return addr, true
	}
	if s.p.to-s.next < size {
		return 0, false
	}
	s.next += size
	return s.next - size, true
}

// does makes a call, and asks it for its answer.
func (s *shelf) does(t *testing.T, c call, want answer) {
	t.Helper()
	had := maps.Clone(s.b.words)
	if got := c(s.b); got != want {
		t.Fatalf("answers %v, not %v", got, want)
	}
	if want.err != api.OK && !maps.Equal(had, s.b.words) {
		t.Fatalf("was refused, and has changed cells")
	}
}

// whole asks the room, each heap and the pieces of others for what they have: by their cells and by the calls.
func (s *shelf) whole(t *testing.T) {
	t.Helper()
	b := open(s.b.words)
	if got, err := rooms.Left(b, s.p.room); got != s.p.to-s.next || err != api.OK {
		t.Fatalf("the room has %d left, %v, not %d", got, err, s.p.to-s.next)
	}
	for size, given := range s.back {
		if size == 0 {
			continue
		}
		got, err := rooms.Given(b, s.p.room, uint64(size))
		slices.Reverse(got)
		if !slices.Equal(got, given) || err != api.OK {
			t.Fatalf("given back were %v, %v, not %v", got, err, given)
		}
	}
	for h := range s.heaps {
		s.asksHeap(t, h)
	}
	for _, o := range s.others {
		for n, word := range o.words {
			if got := s.b.words[o.addr+uint64(n)]; got != word {
				t.Fatalf("another's cell has %d, not %d", got, word)
			}
		}
	}
}

// asksHeap asks for a heap by its cells, and by the calls that only look.
func (s *shelf) asksHeap(t *testing.T, h uint64) {
	t.Helper()
	list := s.heaps[h]
	if got := s.b.words.entries(t, h); !slices.Equal(got, list) {
		t.Fatalf("the entries are %v, not %v", got, list)
	}
	has, want := s.b.words.nodes(t, h), slices.Clone(s.nodes[h])
	slices.Sort(has)
	slices.Sort(want)
	if !slices.Equal(has, want) {
		t.Fatalf("the nodes lie at %v, not at %v", has, want)
	}
	b := open(s.b.words)
	if got := allOf(h)(b); got != lists(list...) {
		t.Fatalf("All answers %v, not %v", got, list)
	}
	if got := length(h)(b); got != (answer{word: uint64(len(list))}) {
		t.Fatalf("Len answers %v, not %d", got, len(list))
	}
	least := nothing
	if len(list) > 0 {
		least = tells(list[0])
	}
	if got := firstOf(h)(b); got != least {
		t.Fatalf("First answers %v, not %v", got, least)
	}
	if b.puts() > 0 {
		t.Fatal("who only looks has put")
	}
}

func (s *shelf) lay(t *testing.T) {
	t.Helper()
	h, ok := s.takes(2)
	if !ok {
		s.does(t, lay(s.p.room), answer{err: api.ErrRoom})
		return
	}
	s.heaps[h], s.nodes[h] = nil, nil
	s.does(t, lay(s.p.room), answer{word: h})
}

func (s *shelf) push(t *testing.T, h uint64, e entry) {
	t.Helper()
	node, ok := s.takes(5)
	if !ok {
		s.does(t, push(s.p.room, h, e), answer{err: api.ErrRoom})
		return
	}
	s.heaps[h] = inOrder(append(s.heaps[h], e)...)
	s.nodes[h] = append(s.nodes[h], node)
	s.does(t, push(s.p.room, h, e), nothing)
}

func (s *shelf) pop(t *testing.T, h uint64) {
	t.Helper()
	has := s.heaps[h]
	if len(has) == 0 {
		s.does(t, pop(s.p.room, h), nothing)
		return
	}
	// No node is behind the root in the order, so this is the one that goes.
	root := s.b.words[h+1] - 1
	s.heaps[h] = has[1:]
	s.nodes[h] = slices.DeleteFunc(slices.Clone(s.nodes[h]), func(node uint64) bool { return node == root })
	s.back[5] = append(s.back[5], root)
	s.does(t, pop(s.p.room, h), tells(has[0]))
}

func (s *shelf) join(t *testing.T, h, other uint64) {
	t.Helper()
	if h == other {
		s.does(t, joins(h, other), answer{err: api.ErrArg})
		return
	}
	s.heaps[h] = inOrder(append(s.heaps[h], s.heaps[other]...)...)
	s.nodes[h] = append(slices.Clone(s.nodes[h]), s.nodes[other]...)
	s.heaps[other], s.nodes[other] = nil, nil
	s.does(t, joins(h, other), nothing)
}

func (s *shelf) clear(t *testing.T, h uint64) {
	t.Helper()
	nodes, had := s.nodes[h], len(s.back[5])
	s.heaps[h], s.nodes[h] = nil, nil
	s.does(t, clearAll(s.p.room, h), answer{word: uint64(len(nodes))})
	// In which order they were given back is not said: the room tells it.
	given := given5(t, s.b.words, s.p.room)
	slices.Reverse(given)
	fresh := slices.Sorted(slices.Values(given[min(had, len(given)):]))
	if !slices.Equal(fresh, slices.Sorted(slices.Values(nodes))) {
		t.Fatalf("given back were %v, not %v", fresh, nodes)
	}
	s.back[5] = append(s.back[5], given[had:]...)
}

// lends takes a piece out of the room for somebody else, who writes into it.
func (s *shelf) lends(t *testing.T, size uint64, d *drawn) {
	t.Helper()
	want, ok := s.takes(size)
	got, err := rooms.Take(s.b, s.p.room, size)
	if (err == api.OK) != ok || got != want {
		t.Fatalf("the room gives %d, %v, not %d", got, err, want)
	}
	if !ok {
		return
	}
	o := piece{addr: got}
	for n := range size {
		word := d.next() % 100
		o.words = append(o.words, word)
		s.b.Put(got+n, word)
	}
	s.others = append(s.others, o)
}

// returns gives such a piece back.
func (s *shelf) returns(n int) {
	o := s.others[n]
	s.others = slices.Delete(s.others, n, n+1)
	size := len(o.words)
	s.back[size] = append(s.back[size], o.addr)
	rooms.Give(s.b, s.p.room, o.addr, uint64(size))
}

// step makes one drawn call.
func (s *shelf) step(t *testing.T, d *drawn, next func() entry) {
	t.Helper()
	heaps := slices.Sorted(maps.Keys(s.heaps))
	if len(heaps) == 0 {
		s.lay(t)
		return
	}
	h := heaps[d.below(len(heaps))]
	switch n := d.below(60); {
	case n == 0:
		s.clear(t, h)
	case n < 3:
		s.lay(t)
	case n < 5:
		s.lends(t, []uint64{2, 5}[d.below(2)], d)
	case n < 8 && len(s.others) > 0:
		s.returns(d.below(len(s.others)))
	case n < 14:
		s.join(t, h, heaps[d.below(len(heaps))])
	case n < 38:
		s.push(t, h, next())
	default:
		s.pop(t, h)
	}
}

// drawnEntry is an entry that looks drawn: one of a few, so that the same ones come again, or any.
func drawnEntry(d *drawn) entry {
	if d.below(3) == 0 {
		return of(float64(d.below(2000)-1000)/16, d.next())
	}
	keys := []float64{-inf, -1, minus, 0, 5e-324, 1, 2.5, inf, nan}
	several := []uint64{0, 1, 2, top}
	return of(keys[d.below(len(keys))], several[d.below(len(several))])
}

// P24.5: drawn calls on several heaps of one room, held against plain lists, between others' pieces of the same room.
func TestDrawnCalls(t *testing.T) {
	for n, p := range append(slices.Clone(places), place{0, 18, 400}, place{0, 18, 30}, place{0, 18, 24}, place{0, 18, 20}, place{190, 0, 180}) {
		t.Run(fmt.Sprint(n), func(t *testing.T) {
			d := drawn(100 + n)
			s := newShelf(p)
			for range 1500 {
				s.step(t, &d, func() entry { return drawnEntry(&d) })
				s.whole(t)
			}
		})
	}
}

// P24.5: drawn calls on heaps of many entries; all is asked for now and then.
func TestDrawnCallsOfMany(t *testing.T) {
	d := drawn(7)
	s := newShelf(place{0, 18, 6000})
	s.lay(t)
	s.lay(t)
	for n := range 12000 {
		h := []uint64{18, 20}[d.below(2)]
		switch k := d.below(100); {
		case k == 0 && n%2000 > 1500:
			s.join(t, h, 38-h)
		case k < 60 == (n%6000 < 4000):
			s.push(t, h, drawnEntry(&d))
		default:
			s.pop(t, h)
		}
		if n%500 == 0 {
			s.whole(t)
		}
	}
	s.join(t, 18, 20)
	s.whole(t)
	for len(s.heaps[18]) > 0 {
		s.pop(t, 18)
	}
	s.whole(t)
}

// P24.5: all orders of some calls on two heaps in a small room.
func TestAllSmallOrdersOfTwo(t *testing.T) {
	const kinds, steps = 7, 5
	orders := 1
	for range steps {
		orders *= kinds
	}
	for code := range orders {
		s := newShelf(place{60, 2, 6 + 15})
		s.lay(t)
		s.lay(t)
		for n := range steps {
			switch e := of(float64(n*3%5), uint64(n%2)); code % kinds {
			case 0:
				s.push(t, 2, e)
			case 1:
				s.push(t, 4, e)
			case 2:
				s.pop(t, 2)
			case 3:
				s.pop(t, 4)
			case 4:
				s.join(t, 2, 4)
			case 5:
				s.join(t, 4, 2)
			default:
				s.clear(t, 2)
			}
			code /= kinds
		}
		s.whole(t)
	}
}

// P24.5: entries that come in any order, popped one by one, come in the order: all orders of six, two of them the same.
func TestAllOrdersOfSix(t *testing.T) {
	list := []entry{of(-1, 0), of(minus, 3), of(0, 3), of(0, 3), of(0, 4), of(nan, 0)}
	var orders func(n int)
	orders = func(n int) {
		if n < len(list) {
			for k := n; k < len(list); k++ {
				list[n], list[k] = list[k], list[n]
				orders(n + 1)
				list[n], list[k] = list[k], list[n]
			}
			return
		}
		b := open(laid(place{0, 18, 50}))
		h, _ := New(b, 0)
		for _, e := range list {
			if got := push(0, h, e)(b); got != nothing {
				t.Fatal(got)
			}
		}
		for _, e := range inOrder(list...) {
			if got := pop(0, h)(b); got != tells(e) {
				t.Fatalf("of %v comes %v, not %v", list, got, e)
			}
		}
	}
	orders(0)
}

// P24.5: how many cells are left hangs on how many entries there are alone: those that were never taken and those that were given back.
func TestWhatIsLeft(t *testing.T) {
	d := drawn(5)
	s := newShelf(place{0, 18, 18 + 4 + 5*30})
	s.lay(t)
	s.lay(t)
	for range 600 {
		switch h := []uint64{18, 20}[d.below(2)]; d.below(9) {
		case 0, 1, 2, 3:
			s.push(t, h, drawnEntry(&d))
		case 4, 5, 6:
			s.pop(t, h)
		case 7:
			s.join(t, h, 38-h)
		default:
			if d.below(5) == 0 {
				s.clear(t, h)
			}
		}
		left, _ := rooms.Left(s.b, 0)
		given := uint64(len(given5(t, s.b.words, 0)))
		if many := uint64(len(s.heaps[18]) + len(s.heaps[20])); left+5*given != 5*(30-many) {
			t.Fatalf("%d are left, and %d pieces given back, of %d entries", left, given, many)
		}
	}
}

// P24.5: calls on one heap put nothing into cells of another one, and ask for none.
func TestHeapsApart(t *testing.T) {
	d := drawn(6)
	s := newShelf(place{0, 18, 318})
	for range 3 {
		s.lay(t)
	}
	heaps := slices.Sorted(maps.Keys(s.heaps))
	for n := range 1500 {
		h := heaps[d.below(3)]
		with := h
		if n%50 == 49 {
			with = heaps[d.below(3)]
		}
		others := map[uint64]bool{}
		for _, other := range heaps {
			if other == h || other == with {
				continue
			}
			others[other], others[other+1] = true, true
			for _, node := range s.nodes[other] {
				for k := range uint64(5) {
					others[node+k] = true
				}
			}
		}
		s.b.trace = nil
		switch {
		case n%50 == 49:
			s.join(t, h, with)
		case n%150 == 7:
			s.clear(t, h)
		case d.below(2) == 0:
			s.push(t, h, drawnEntry(&d))
		default:
			s.pop(t, h)
		}
		for _, a := range s.b.trace {
			if others[a.addr] {
				t.Fatalf("a call on the heap at %d has asked for a cell of another one: %v", h, a)
			}
		}
	}
	s.whole(t)
}

// P24.5 by a tx that says no now and then: the block is given up, and the same call is made anew.
func TestBlocksThatAreGivenUp(t *testing.T) {
	d := drawn(12)
	s := newShelf(place{0, 18, 150})
	s.lay(t)
	s.lay(t)
	for n := range 800 {
		e := drawnEntry(&d)
		kept := maps.Clone(s.b.words)
		s.b.trace, s.b.no, s.b.err = nil, d.below(25), api.ErrStale
		got := []call{push(0, 18, e), pop(0, 18), joins(18, 20), clearAll(0, 20)}[n%4](s.b)
		if got.err != api.OK && got.err != api.ErrRoom && got != (answer{err: api.ErrStale}) {
			t.Fatal(got)
		}
		s.b.trace, s.b.no, s.b.words = nil, -1, kept
		s.whole(t)
		switch d.below(6) {
		case 0, 1, 2:
			s.push(t, 18, e)
		case 3:
			s.push(t, 20, e)
		case 4:
			s.pop(t, 18)
		default:
			s.join(t, 18, 20)
		}
	}
}
