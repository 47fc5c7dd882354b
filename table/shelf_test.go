package table

import (
	"maps"
	"slices"
	"testing"

	"parley/api"
	rooms "parley/room"
)

// plant is a map as plain data: its keys' values, which of its nodes there are but the header, by the digits that lead to them, and where each leaf stands, by the digits that lead to its slot.
type plant struct {
	values map[uint64]uint64
	nodes  map[string]bool
	leaves map[string]uint64
}

func newPlant() *plant {
	return &plant{map[uint64]uint64{}, map[string]bool{}, map[string]uint64{}}
}

// depth is how many nodes but the header are on a key's way.
func (p *plant) depth(key uint64) int {
	d := 0
	for p.nodes[digitsOf(key)[:d+1]] {
		d++
	}
	return d
}

// slot is the digits that lead to where a key's way ends.
func (p *plant) slot(key uint64) string { return digitsOf(key)[:p.depth(key)+1] }

// needs is the sizes of the pieces that a new key takes, in this order.
func (p *plant) needs(key uint64) []uint64 {
	var sizes []uint64
	slot := p.slot(key)
	if other, full := p.leaves[slot]; full {
		for d := len(slot); digitsOf(other)[:d] == digitsOf(key)[:d]; d++ {
			sizes = append(sizes, 16)
		}
	}
	return append(sizes, 2)
}

// put lets a key have a value.
func (p *plant) put(key, value uint64) {
	_, had := p.values[key]
	p.values[key] = value
	if had {
		return
	}
	for {
		slot := p.slot(key)
		other, full := p.leaves[slot]
		if !full {
			p.leaves[slot] = key
			return
		}
		delete(p.leaves, slot)
		p.nodes[slot] = true
		p.leaves[p.slot(other)] = other
	}
}

func (p *plant) delete(key uint64) {
	delete(p.leaves, p.slot(key))
	delete(p.values, key)
}

// entries is what a map has.
func (p *plant) entries() []entry {
	var list []entry
	for key, value := range p.values {
		list = append(list, entry{key, value})
	}
	return list
}

// piece is cells of a room that somebody else has, with what was written into them.
type piece struct {
	addr  uint64
	words []uint64
}

// shelf is a room with maps in it, and all of it as plain data: which pieces of each size were given back, the last one last, from where on cells were never taken, and pieces of others.
type shelf struct {
	b      *book
	p      place
	next   uint64
	back   [17][]uint64
	maps   map[uint64]*plant
	others []piece
}

// newShelf is a shelf with one map, whose header is none of the room's cells.
func newShelf(p place) *shelf {
	return &shelf{b: open(laid(p)), p: p, next: p.from, maps: map[uint64]*plant{p.at: newPlant()}}
}

// takes is the pieces that must come next, and whether there are all of them; if not, none is taken.
func (s *shelf) takes(sizes ...uint64) ([]uint64, bool) {
	back, next := s.back, s.next
	var pieces []uint64
	for _, size := range sizes {
		if n := len(back[size]); n > 0 {
			pieces = append(pieces, back[size][n-1])
			back[size] = back[size][:n-1]
			continue
		}
		if s.p.to-next < size {
			return nil, false
		}
		pieces = append(pieces, next)
		next += size
	}
	s.back, s.next = back, next
	return pieces, true
}

// does makes a call, and asks it for its answer. A call that is refused is given up: what it has put is none.
func (s *shelf) does(t *testing.T, c call, want answer) {
	t.Helper()
	had := s.b.words
	s.b.words = maps.Clone(had)
	if got := c(s.b); got != want {
		t.Fatalf("answers %v, not %v", got, want)
	}
	if want.err != api.OK {
		s.b.words = had
	}
}

func (s *shelf) lay(t *testing.T) {
	t.Helper()
	pieces, ok := s.takes(16)
	if !ok {
		s.does(t, lays(s.p.room), no(api.ErrRoom))
		return
	}
	s.maps[pieces[0]] = newPlant()
	s.does(t, lays(s.p.room), answer{word: pieces[0]})
}

// change puts a value, or adds it to what is there.
func (s *shelf) change(t *testing.T, at, key, value uint64, c changes) {
	t.Helper()
	p := s.maps[at]
	old, had := p.values[key]
	if !had {
		if _, ok := s.takes(p.needs(key)...); !ok {
			s.does(t, c.call(s.p.room, at, key, value), no(api.ErrRoom))
			return
		}
	}
	p.put(key, c.then(old, value))
	s.does(t, c.call(s.p.room, at, key, value), c.want(old, had, value))
}

func (s *shelf) delete(t *testing.T, at, key uint64) {
	t.Helper()
	p := s.maps[at]
	value, had := p.values[key]
	if !had {
		puts := s.b.puts()
		if s.does(t, deletes(s.p.room, at, key), none); s.b.puts() > puts {
			t.Fatal("a Delete that answers false has put")
		}
		return
	}
	leaf := s.b.words.spotOf(at, key).leaf()
	s.back[2] = append(slices.Clone(s.back[2]), leaf)
	p.delete(key)
	s.does(t, deletes(s.p.room, at, key), is(value))
}

// lends takes a piece out of the room for somebody else, who writes into it.
func (s *shelf) lends(t *testing.T, size uint64, d *drawn) {
	t.Helper()
	want, ok := s.takes(size)
	got, err := rooms.Take(s.b, s.p.room, size)
	if (err == api.OK) != ok || ok && got != want[0] {
		t.Fatalf("the room gives %d, %v, not %v", got, err, want)
	}
	if !ok {
		return
	}
	o := piece{addr: got}
	for n := range size {
		word := d.next() % 100
		o.words = append(o.words, word)
		s.b.Put(got+n, word)
	}
	s.others = append(s.others, o)
}

// returns gives such a piece back.
func (s *shelf) returns(n int) {
	o := s.others[n]
	s.others = slices.Delete(s.others, n, n+1)
	size := len(o.words)
	s.back[size] = append(slices.Clone(s.back[size]), o.addr)
	rooms.Give(s.b, s.p.room, o.addr, uint64(size))
}

// whole asks the room, each map and the pieces of others for what they have.
func (s *shelf) whole(t *testing.T) {
	t.Helper()
	b := open(s.b.words)
	if got, err := rooms.Left(b, s.p.room); got != s.p.to-s.next || err != api.OK {
		t.Fatalf("the room has %d left, %v, not %d", got, err, s.p.to-s.next)
	}
	for _, size := range []uint64{2, 16} {
		got, err := rooms.Given(b, s.p.room, size)
		slices.Reverse(got)
		if !slices.Equal(got, s.back[size]) || err != api.OK {
			t.Fatalf("given back were %v, %v, not %v", got, err, s.back[size])
		}
	}
	for at := range s.maps {
		s.asksMap(t, at)
	}
	for _, o := range s.others {
		for n, word := range o.words {
			if got := s.b.words[o.addr+uint64(n)]; got != word {
				t.Fatalf("another's cell has %d, not %d", got, word)
			}
		}
	}
}

// asksMap asks for a map by the calls that only look.
func (s *shelf) asksMap(t *testing.T, at uint64) {
	t.Helper()
	p, b := s.maps[at], open(s.b.words)
	want := cellsOf(p.entries())
	if got := allOf(at)(b); got != (answer{list: text(want)}) {
		t.Fatalf("All answers %v, not %v", got, want)
	}
	if got := keysOf(at)(b); got != (answer{list: text(slices.Sorted(maps.Keys(p.values)))}) {
		t.Fatalf("Keys answers %v, not those of %v", got, want)
	}
	if got := length(at)(b); got != (answer{word: uint64(len(want))}) {
		t.Fatalf("Len answers %v, not %d", got, len(want))
	}
	for key, value := range p.values {
		if got := gets(at, key)(b); got != is(value) {
			t.Fatalf("Get of %d answers %v, not %d", key, got, value)
		}
		if got := depth(at, key)(b); got != (answer{word: uint64(p.depth(key))}) {
			t.Fatalf("Depth of %d answers %v, not %d", key, got, p.depth(key))
		}
	}
	if b.puts() > 0 {
		t.Fatal("who only looks has put")
	}
}
