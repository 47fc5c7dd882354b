package skip

import (
	"maps"
	"slices"
	"testing"

	"parley/api"
	rooms "parley/room"
)

// place is where a room's header lies, from where on up to below where its cells are, and where a set's header lies.
type place struct{ room, from, to, at uint64 }

// places is rooms and sets that lie at the edges of words, too; some go round.
var places = []place{
	{0, 40, 160, 20},
	{500, 30, 151, 3},
	{1 << 40, 0, 120, 1 << 50},
	{0, top - 119, top, 18},
	{top - 17, 8, 130, 0},
	{top, 25, 150, 17},
	{200, 8, 128, top - 3},
	{200, 0, 120, top - 7},
	{7, 1<<63 - 60, 1<<63 + 60, 1<<32 - 4},
}

// piece is a node as plain data.
type piece struct {
	word, node uint64
	level      int
}

// lead is what a link to the node has.
func (p piece) lead() uint64 { return p.node + 1 }

// shelf is a room with sets, and all of it as plain data: which cells were given back, the last one last, which were never taken, and of each set its nodes, by rising words. From these it tells what each call must answer, and by which gets and puts.
type shelf struct {
	words words
	p     place
	next  uint64
	back  map[uint64][]uint64 // by sizes
	sets  map[uint64][]piece
	deep  bool // each call is asked, too, what it does if the tx says no
}

// newShelf is a room in which all that is left has words that nobody laid there, and so has a set's header, till it is laid.
func newShelf(p place) *shelf {
	s := &shelf{words: words{}, p: p, next: p.from, back: map[uint64][]uint64{}, sets: map[uint64][]piece{}, deep: true}
	for addr := p.from; addr != p.to; addr++ {
		s.words.set(addr, 9000+addr-p.from)
	}
	s.words.lay(p.at, 901, 902, 903, 904, 905, 906, 907, 908)
	b := open(s.words)
	rooms.Lay(b, p.room, p.from, p.to)
	s.words = b.words()
	return s
}

// set is a shelf with a set of these words, in the order in which they came, and of the levels; it is laid here, not by the calls that are asked.
func set(p place, came ...piece) *shelf {
	s := newShelf(p)
	s.words.lay(p.at, 0, 0, 0, 0, 0, 0, 0, 0)
	s.sets[p.at] = nil
	for _, n := range came {
		n.node = s.next
		s.next += uint64(n.level) + 2
		s.stand(n)
	}
	s.words.set(p.room, s.next)
	return s
}

// stand puts a node among those of the set, and lays all links anew.
func (s *shelf) stand(n piece) {
	nodes := append(s.sets[s.p.at], n)
	slices.SortFunc(nodes, func(a, b piece) int {
		if a.word < b.word {
			return -1
		}
		return 1
	})
	s.sets[s.p.at] = nodes
	for here := -1; here < len(nodes); here++ {
		if here >= 0 {
			s.words.lay(nodes[here].node, nodes[here].word, uint64(nodes[here].level))
		}
		for level := range Levels {
			if here < 0 || level < nodes[here].level {
				s.words.set(s.cell(s.p.at, here, level), s.leads(s.p.at, here, level))
			}
		}
	}
}

// cell is where a node's link of a level lies (-1: the header's).
func (s *shelf) cell(at uint64, here, level int) uint64 {
	if here < 0 {
		return at + uint64(level)
	}
	return s.sets[at][here].node + 2 + uint64(level)
}

// following is the next node of a level; how many there are, if there is none.
func (s *shelf) following(at uint64, here, level int) int {
	nodes := s.sets[at]
	for next := here + 1; next < len(nodes); next++ {
		if nodes[next].level > level {
			return next
		}
	}
	return len(nodes)
}

// leads is what a node's link of a level must have.
func (s *shelf) leads(at uint64, here, level int) uint64 {
	next := s.following(at, here, level)
	if next == len(s.sets[at]) {
		return 0
	}
	return s.sets[at][next].lead()
}

// found is where a word stands among those of a set, or would stand.
func (s *shelf) found(at, x uint64) (int, bool) {
	for n, p := range s.sets[at] {
		if p.word >= x {
			return n, p.word == x
		}
	}
	return len(s.sets[at]), false
}

// way is the gets of the search for a word, or of one that goes on from its node, too; and the last node ahead of it, by levels.
func (s *shelf) way(at, x uint64, past bool) (trace []access, ahead [Levels]int) {
	nodes, here := s.sets[at], -1
	for level := Levels - 1; level >= 0; level-- {
		for {
			next := s.following(at, here, level)
			trace = append(trace, get(s.cell(at, here, level)))
			if next == len(nodes) {
				break
			}
			trace = append(trace, get(nodes[next].node))
			if w := nodes[next].word; w > x || w == x && !past {
				break
			}
			here = next
		}
		ahead[level] = here
	}
	return trace, ahead
}

// take is how the room is asked for cells, and which come; false, if there are none.
func (s *shelf) take(size uint64) (trace []access, addr uint64, ok bool) {
	head := s.p.room + 1 + size
	trace = append(trace, get(head))
	if had := s.back[size]; len(had) > 0 {
		addr = had[len(had)-1]
		s.back[size] = had[:len(had)-1]
		next := uint64(0)
		if len(had) > 1 {
			next = had[len(had)-2] + 1
		}
		return append(trace, get(addr), put(head, next)), addr, true
	}
	trace = append(trace, get(s.p.room), get(s.p.room+1))
	if s.p.to-s.next < size {
		return trace, 0, false
	}
	addr = s.next
	s.next += size
	return append(trace, put(s.p.room, s.next)), addr, true
}

// give is how cells are given back.
func (s *shelf) give(addr, size uint64) []access {
	head, had, next := s.p.room+1+size, s.back[size], uint64(0)
	if len(had) > 0 {
		next = had[len(had)-1] + 1
	}
	s.back[size] = append(slices.Clone(had), addr)
	return []access{get(head), put(addr, next), put(head, addr+1)}
}

// does makes a call, and asks it for its answer and its way; then all of the shelf.
func (s *shelf) does(t *testing.T, c call, want answer, trace []access) {
	t.Helper()
	if s.deep {
		s.words = asks(t, s.words, c, want, trace)
	} else {
		b := open(s.words)
		if got := c(b); got != want {
			t.Fatalf("answers %v, not %v", got, want)
		}
		if !slices.Equal(b.trace, trace) {
			t.Fatalf("goes by %v, not by %v", b.trace, trace)
		}
		s.words = b.words()
	}
	s.whole(t)
}

// whole asks the room, and each set, for what it has in its cells.
func (s *shelf) whole(t *testing.T) {
	t.Helper()
	b := open(s.words)
	if got, err := rooms.Left(b, s.p.room); got != s.p.to-s.next || err != api.OK {
		t.Fatalf("the room has %d left, %v, not %d", got, err, s.p.to-s.next)
	}
	for size := uint64(1); size <= rooms.Most; size++ {
		want := slices.Clone(s.back[size])
		slices.Reverse(want)
		if got, err := rooms.Given(b, s.p.room, size); !slices.Equal(got, want) || err != api.OK {
			t.Fatalf("of %d cells %v, %v were given back, not %v", size, got, err, want)
		}
	}
	for at, nodes := range s.sets {
		for here := -1; here < len(nodes); here++ {
			s.stands(t, at, here)
		}
	}
}

// stands asks for the cells of a node (-1: of the header).
func (s *shelf) stands(t *testing.T, at uint64, here int) {
	t.Helper()
	high := Levels
	if here >= 0 {
		n := s.sets[at][here]
		high = n.level
		if w := s.words; w[n.node] != n.word || w[n.node+1] != uint64(n.level) {
			t.Fatalf("the node at %d has %d and %d, not %d and %d", n.node, w[n.node], w[n.node+1], n.word, n.level)
		}
	}
	for level := range high {
		cell := s.cell(at, here, level)
		if got, want := s.words[cell], s.leads(at, here, level); got != want {
			t.Fatalf("the link at %d, of the level %d, has %d, not %d", cell, level, got, want)
		}
	}
}

// laying is the puts of Lay.
func laying(at uint64) []access {
	var trace []access
	for level := range uint64(8) {
		trace = append(trace, put(at+level, 0))
	}
	return trace
}

func (s *shelf) lay(t *testing.T, at uint64) {
	t.Helper()
	s.sets[at] = nil
	s.does(t, lay(at), no, laying(at))
}

func (s *shelf) fresh(t *testing.T) {
	t.Helper()
	trace, at, ok := s.take(8)
	if !ok {
		s.does(t, fresh(s.p.room), noRoom, trace)
		return
	}
	s.sets[at] = nil
	s.does(t, fresh(s.p.room), answer{word: at}, append(trace, laying(at)...))
}

// insert tells whether the word came in.
func (s *shelf) insert(t *testing.T, at, x uint64, level int) bool {
	t.Helper()
	c := insert(s.p.room, at, x, level)
	trace, ahead := s.way(at, x, false)
	n, there := s.found(at, x)
	if there {
		s.does(t, c, no, trace)
		return false
	}
	high := level
	if high < 1 {
		high = 1
	} else if high > 8 {
		high = 8
	}
	took, node, ok := s.take(uint64(high) + 2)
	trace = append(trace, took...)
	if !ok {
		s.does(t, c, noRoom, trace)
		return false
	}
	trace = append(trace, put(node, x), put(node+1, uint64(high)))
	for k := range high {
		trace = append(trace, put(node+2+uint64(k), s.leads(at, ahead[k], k)), put(s.cell(at, ahead[k], k), node+1))
	}
	s.sets[at] = slices.Insert(slices.Clone(s.sets[at]), n, piece{x, node, high})
	s.does(t, c, yes, trace)
	return true
}

func (s *shelf) remove(t *testing.T, at, x uint64) {
	t.Helper()
	c := remove(s.p.room, at, x)
	trace, ahead := s.way(at, x, false)
	n, there := s.found(at, x)
	if !there {
		s.does(t, c, no, trace)
		return
	}
	gone := s.sets[at][n]
	trace = append(trace, get(gone.node+1))
	for k := range gone.level {
		trace = append(trace, get(s.cell(at, n, k)), put(s.cell(at, ahead[k], k), s.leads(at, n, k)))
	}
	trace = append(trace, s.give(gone.node, uint64(gone.level)+2)...)
	s.sets[at] = slices.Delete(slices.Clone(s.sets[at]), n, n+1)
	s.does(t, c, yes, trace)
}

// looks asks a set for one word.
func (s *shelf) looks(t *testing.T, at, x uint64) {
	t.Helper()
	n, there := s.found(at, x)
	trace, _ := s.way(at, x, false)
	s.does(t, has(at, x), answer{has: there}, trace)
	if there {
		n++
	}
	want := no
	if n < len(s.sets[at]) {
		want = tells(s.sets[at][n].word)
	}
	trace, _ = s.way(at, x, true)
	s.does(t, after(at, x), want, trace)
}

// tellsAll asks a set for its first word, for all words, and how many they are.
func (s *shelf) tellsAll(t *testing.T, at uint64) {
	t.Helper()
	trace, least, row := []access{get(at)}, no, []uint64(nil)
	for here, n := range s.sets[at] {
		trace = append(trace, get(n.node))
		if here == 0 {
			least = tells(n.word)
			s.does(t, first(at), least, trace)
		}
		trace = append(trace, get(s.cell(at, here, 0)))
		row = append(row, n.word)
	}
	if least == no {
		s.does(t, first(at), no, trace)
	}
	s.does(t, keys(at), answer{list: text(row)}, trace)
	s.does(t, length(at), answer{word: uint64(len(row))}, trace)
}

// copy is a shelf that goes on apart.
func (s *shelf) copy() *shelf {
	c := *s
	c.back, c.sets = maps.Clone(s.back), maps.Clone(s.sets)
	return &c
}
