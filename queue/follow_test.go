package queue

import (
	"fmt"
	"maps"
	"slices"
	"testing"

	"parley/api"
	rooms "parley/room"
)

// entry is a word of a queue, and where its node lies.
type entry struct{ word, node uint64 }

// piece is cells of a room that somebody else has, with what was written into them.
type piece struct {
	addr  uint64
	words []uint64
}

// shelf is a room with queues in it, and all of it as plain data: which pieces of each size were given back, the last one last, from where on cells were never taken, each queue's words with their nodes, and pieces of others.
type shelf struct {
	b      *book
	p      place
	next   uint64
	back   [4][]uint64 // by sizes, up to 3
	queues map[uint64][]entry
	others []piece
}

func newShelf(p place) *shelf {
	return &shelf{b: open(laid(p)), p: p, next: p.from, queues: map[uint64][]entry{}}
}

// takes is the cells that must come next.
func (s *shelf) takes(size uint64) (uint64, bool) {
	if n := len(s.back[size]); n > 0 {
		addr := s.back[size][n-1]
		s.back[size] = s.back[size][:n-1]
		return addr, true
	}
	if s.p.to-s.next < size {
		return 0, false
	}
	s.next += size
	return s.next - size, true
}

// does makes a call, and asks it for its answer; then all of the shelf.
func (s *shelf) does(t *testing.T, c call, want answer) {
	t.Helper()
	had := s.b.words.behind(nil)
	if got := c(s.b); got != want {
		t.Fatalf("answers %v, not %v", got, want)
	}
	if want.err != api.OK && !maps.Equal(had, s.b.words) {
		t.Fatalf("was refused, and has changed cells")
	}
	s.whole(t)
}

// listed is a queue's words.
func (s *shelf) listed(q uint64) []uint64 {
	var list []uint64
	for _, e := range s.queues[q] {
		list = append(list, e.word)
	}
	return list
}

// whole asks the room, each queue and the pieces of others for what they have: by their cells and by the calls.
func (s *shelf) whole(t *testing.T) {
	t.Helper()
	if got, err := rooms.Left(open(s.b.words), s.p.room); got != s.p.to-s.next || err != api.OK {
		t.Fatalf("the room has %d left, %v, not %d", got, err, s.p.to-s.next)
	}
	for size := uint64(1); size < 4; size++ {
		given := slices.Clone(s.back[size])
		slices.Reverse(given)
		gave(t, s.b.words, s.p.room, size, given...)
	}
	for q, entries := range s.queues {
		is(t, s.b.words, q, s.listed(q)...)
		for n, node := range s.b.words.nodes(t, q) {
			if node != entries[n].node {
				t.Fatalf("the node %d lies at %d, not at %d", n, node, entries[n].node)
			}
		}
		s.looks(t, q)
	}
	for _, o := range s.others {
		for n, word := range o.words {
			if got := s.b.words[o.addr+uint64(n)]; got != word {
				t.Fatalf("another's cell has %d, not %d", got, word)
			}
		}
	}
}

// looks asks a queue by the calls that only look.
func (s *shelf) looks(t *testing.T, q uint64) {
	t.Helper()
	b := open(s.b.words)
	list := s.listed(q)
	if got, want := all(q)(b), (answer{list: text(list)}); got != want {
		t.Fatalf("Words answers %v, not %v", got, want)
	}
	if got, want := length(q)(b), (answer{word: uint64(len(list))}); got != want {
		t.Fatalf("Len answers %v, not %v", got, want)
	}
	least := nothing
	if len(list) > 0 {
		least = tells(list[0])
	}
	if got := first(q)(b); got != least {
		t.Fatalf("First answers %v, not %v", got, least)
	}
	if b.puts() > 0 {
		t.Fatal("who only looks has put")
	}
}

func (s *shelf) lay(t *testing.T) {
	t.Helper()
	q, ok := s.takes(3)
	if !ok {
		s.does(t, lay(s.p.room), answer{err: api.ErrRoom})
		return
	}
	s.queues[q] = nil
	s.does(t, lay(s.p.room), answer{word: q})
}

func (s *shelf) put(t *testing.T, q, word uint64) {
	t.Helper()
	node, ok := s.takes(2)
	if !ok {
		s.does(t, putIn(s.p.room, q, word), answer{err: api.ErrRoom})
		return
	}
	s.queues[q] = append(s.queues[q], entry{word, node})
	s.does(t, putIn(s.p.room, q, word), nothing)
}

func (s *shelf) take(t *testing.T, q uint64) {
	t.Helper()
	has := s.queues[q]
	if len(has) == 0 {
		s.does(t, takeOut(s.p.room, q), nothing)
		return
	}
	s.queues[q] = has[1:]
	s.back[2] = append(s.back[2], has[0].node)
	s.does(t, takeOut(s.p.room, q), tells(has[0].word))
}

func (s *shelf) drop(t *testing.T, q uint64) {
	t.Helper()
	for _, e := range s.queues[q] {
		s.back[2] = append(s.back[2], e.node)
	}
	s.back[3] = append(s.back[3], q)
	delete(s.queues, q)
	s.does(t, drop(s.p.room, q), nothing)
}

// lends takes a piece out of the room for somebody else, who writes into it.
func (s *shelf) lends(t *testing.T, size uint64, d *drawn) {
	t.Helper()
	want, ok := s.takes(size)
	got, err := rooms.Take(s.b, s.p.room, size)
	if (err == api.OK) != ok || got != want {
		t.Fatalf("the room gives %d, %v, not %d", got, err, want)
	}
	if !ok {
		return
	}
	o := piece{addr: got}
	for n := range size {
		word := d.next() % 100
		o.words = append(o.words, word)
		s.b.Put(got+n, word)
	}
	s.others = append(s.others, o)
}

// returns gives such a piece back.
func (s *shelf) returns(n int) {
	o := s.others[n]
	s.others = slices.Delete(s.others, n, n+1)
	size := len(o.words)
	s.back[size] = append(s.back[size], o.addr)
	rooms.Give(s.b, s.p.room, o.addr, uint64(size))
}

// step makes one drawn call.
func (s *shelf) step(t *testing.T, d *drawn, word func() uint64) {
	t.Helper()
	queues := slices.Sorted(maps.Keys(s.queues))
	if len(queues) == 0 {
		s.lay(t)
		if len(s.queues) == 0 && len(s.others) > 0 {
			s.returns(d.below(len(s.others)))
		}
		return
	}
	q := queues[d.below(len(queues))]
	switch n := d.below(40); {
	case n == 0:
		s.drop(t, q)
	case n < 3:
		s.lay(t)
	case n < 5:
		s.lends(t, 1+uint64(d.below(3)), d)
	case n < 8 && len(s.others) > 0:
		s.returns(d.below(len(s.others)))
	case n < 24:
		s.put(t, q, word())
	default:
		s.take(t, q)
	}
}

// P23.6: drawn calls on several queues of one room, held against plain lists, between others' pieces of the same room.
func TestDrawnCalls(t *testing.T) {
	some := []uint64{0, 1, 2, 3, 20, 21, 1<<63 - 1, 1 << 63, top - 1, top}
	for n, p := range append(slices.Clone(places), place{0, 20, 120}, place{0, 20, 26}, place{0, 20, 23}, place{90, 0, 80}) {
		t.Run(fmt.Sprint(n), func(t *testing.T) {
			d := drawn(100 + n)
			s := newShelf(p)
			for k := range 1200 {
				s.step(t, &d, func() uint64 {
					if k%3 == 0 {
						return d.next() % 60
					}
					return some[d.below(len(some))]
				})
			}
		})
	}
}

// P23.6: all orders of some calls on two queues in a small room.
func TestAllSmallOrdersOfTwo(t *testing.T) {
	const kinds, steps = 4, 6
	orders := 1
	for range steps {
		orders *= kinds
	}
	for code := range orders {
		s := newShelf(place{40, 2, 14})
		s.lay(t)
		s.lay(t)
		for n := range uint64(steps) {
			switch code % kinds {
			case 0:
				s.put(t, 2, n)
			case 1:
				s.put(t, 5, n)
			case 2:
				s.take(t, 2)
			default:
				s.take(t, 5)
			}
			code /= kinds
		}
		s.drop(t, 2)
		s.take(t, 5)
		s.drop(t, 5)
	}
}

// P23.6: behind Drop all cells of a queue can be taken again, and no others.
func TestAllCellsBehindDrop(t *testing.T) {
	d := drawn(5)
	for many := range uint64(12) {
		s := newShelf(place{0, 20, 23 + 2*many})
		s.lay(t)
		for range 60 {
			if d.below(3) > 0 {
				s.put(t, 20, d.next())
			} else {
				s.take(t, 20)
			}
		}
		for uint64(len(s.queues[20])) < many {
			s.put(t, 20, d.next())
		}
		s.put(t, 20, 5) // for which no cells are left
		s.drop(t, 20)
		taken := map[uint64]bool{}
		take := func(size uint64) {
			addr, err := rooms.Take(s.b, 0, size)
			if err != api.OK {
				t.Fatal(err)
			}
			for n := range size {
				if cell := addr + n; cell < 20 || cell >= s.p.to || taken[cell] {
					t.Fatalf("the cell %d is taken twice, or is none of the queue's", cell)
				}
				taken[addr+n] = true
			}
		}
		take(3)
		for range many {
			take(2)
		}
		if uint64(len(taken)) != 3+2*many {
			t.Errorf("%d cells are taken again", len(taken))
		}
		for size := uint64(1); size <= 3; size++ {
			if _, err := rooms.Take(s.b, 0, size); err != api.ErrRoom {
				t.Errorf("more cells can be taken than there were: %v", err)
			}
		}
	}
}

// P23.6: calls on one queue put nothing into cells of another one, and ask for none.
func TestQueuesApart(t *testing.T) {
	d := drawn(6)
	s := newShelf(place{0, 20, 120})
	for range 3 {
		s.lay(t)
	}
	queues := slices.Sorted(maps.Keys(s.queues))
	for range 1200 {
		q := queues[d.below(3)]
		others := map[uint64]bool{}
		for _, other := range queues {
			if other == q {
				continue
			}
			others[other], others[other+1], others[other+2] = true, true, true
			for _, e := range s.queues[other] {
				others[e.node], others[e.node+1] = true, true
			}
		}
		s.b.trace = nil
		if d.below(2) == 0 {
			s.put(t, q, d.next()%12)
		} else {
			s.take(t, q)
		}
		for _, a := range s.b.trace {
			if others[a.addr] {
				t.Fatalf("a call on the queue at %d has asked for a cell of another one: %v", q, a)
			}
		}
	}
}

// P23.6 by a tx that says no now and then: the block is given up, and the same call is made anew.
func TestBlocksThatAreGivenUp(t *testing.T) {
	d := drawn(12)
	s := newShelf(place{0, 20, 80})
	s.lay(t)
	for n := range 600 {
		kept := s.b.words.behind(nil)
		s.b.trace, s.b.no, s.b.err = nil, d.below(12), api.ErrStale
		var err api.Errno
		if n%2 == 0 {
			err = Put(s.b, 0, 20, uint64(n))
		} else {
			_, _, err = Take(s.b, 0, 20)
		}
		if err != api.ErrStale && err != api.OK && err != api.ErrRoom {
			t.Fatal(err)
		}
		s.b.trace, s.b.no, s.b.words = nil, -1, kept
		s.whole(t)
		if d.below(5) > 1 {
			s.put(t, 20, uint64(n))
		} else {
			s.take(t, 20)
		}
	}
}
