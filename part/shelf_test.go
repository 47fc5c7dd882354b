package part

import (
	"maps"
	"slices"
	"testing"

	"parley/api"
	"parley/list"
	"parley/queue"
	rooms "parley/room"
)

// entry is a word, and where its node lies.
type entry struct{ word, node uint64 }

// own is a part as plain data.
type own struct {
	kind    api.PartKind
	entries []entry
}

// shelf is a room with queues, lists and what was taken out of them, and all of it as plain data.
type shelf struct {
	b      *book
	from   uint64
	to     uint64
	next   uint64
	back   [4][]uint64 // by sizes, up to 3
	queues map[uint64][]entry
	lists  map[uint64][]entry
	parts  []own
}

func newShelf(from, to uint64) *shelf {
	s := &shelf{b: open(words{}), from: from, to: to, next: from, queues: map[uint64][]entry{}, lists: map[uint64][]entry{}}
	for addr := from; addr != to; addr++ {
		s.b.words.set(addr, 9000+addr-from)
	}
	rooms.Lay(s.b, far, from, to)
	return s
}

// takes is the cells that must come next.
func (s *shelf) takes(size uint64) (uint64, bool) {
	if n := len(s.back[size]); n > 0 {
		addr := s.back[size][n-1]
		s.back[size] = s.back[size][:n-1]
		return addr, true
	}
	if s.to-s.next < size {
		return 0, false
	}
	s.next += size
	return s.next - size, true
}

func wordsOf(entries []entry) []uint64 {
	var list []uint64
	for _, e := range entries {
		list = append(list, e.word)
	}
	return list
}

// partOf is the part as api has it.
func (o own) partOf() api.Part {
	p := api.Part{Kind: o.kind, Count: uint64(len(o.entries))}
	if len(o.entries) > 0 {
		p.First = o.entries[0].node + 1
	}
	return p
}

// theirs makes a call of a queue or a list, or one that does not concern these parts: no cell of them is come to.
func (s *shelf) theirs(t *testing.T, does func()) {
	t.Helper()
	cells := map[uint64]bool{}
	for _, o := range s.parts {
		for _, e := range o.entries {
			cells[e.node], cells[e.node+1] = true, true
		}
	}
	s.b.trace = nil
	does()
	for _, a := range s.b.trace {
		if cells[a.addr] {
			t.Fatalf("has come to a cell of what was taken out: %v", a)
		}
	}
	s.whole(t)
}

// whole asks all queues, lists and parts for their words, and the room for its cells.
func (s *shelf) whole(t *testing.T) {
	t.Helper()
	if got, err := rooms.Left(open(s.b.words), far); got != s.to-s.next || err != api.OK {
		t.Fatalf("the room has %d left, %v, not %d", got, err, s.to-s.next)
	}
	gave(t, s.b.words, far, backwards(s.back[2])...)
	for q, entries := range s.queues {
		holds(t, s.b.words, q, wordsOf(entries)...)
	}
	for l, entries := range s.lists {
		lists(t, s.b.words, l, wordsOf(entries)...)
	}
	for _, o := range s.parts {
		if got := reads(o.partOf())(s.b); got != (answer{list: text(wordsOf(o.entries))}) {
			t.Fatalf("Read of %v answers %v, not %v", o.partOf(), got, wordsOf(o.entries))
		}
	}
	if t.Failed() {
		t.FailNow()
	}
}

func (s *shelf) lay(t *testing.T, kind api.PartKind) {
	t.Helper()
	size, shelved, lays := uint64(3), s.queues, queue.New
	if kind == api.PartList {
		size, shelved, lays = 2, s.lists, list.New
	}
	at, ok := s.takes(size)
	if ok {
		shelved[at] = nil
	}
	s.theirs(t, func() {
		if got, err := lays(s.b, far); got != at || (err == api.OK) != ok {
			t.Fatalf("New answers %d, %v, not %d", got, err, at)
		}
	})
}

func (s *shelf) put(t *testing.T, q, word uint64) {
	t.Helper()
	node, ok := s.takes(2)
	if ok {
		s.queues[q] = append(s.queues[q], entry{word, node})
	}
	s.theirs(t, func() {
		if err := queue.Put(s.b, far, q, word); (err == api.OK) != ok {
			t.Fatalf("Put answers %v", err)
		}
	})
}

func (s *shelf) take(t *testing.T, q uint64) {
	t.Helper()
	has := s.queues[q]
	var want entry
	if len(has) > 0 {
		want, s.queues[q] = has[0], has[1:]
		s.back[2] = append(s.back[2], want.node)
	}
	s.theirs(t, func() {
		if word, is, err := queue.Take(s.b, far, q); word != want.word || is != (len(has) > 0) || err != api.OK {
			t.Fatalf("Take answers %d, %v, %v, not %d", word, is, err, want.word)
		}
	})
}

func (s *shelf) insert(t *testing.T, l, key uint64) {
	t.Helper()
	at, is := slices.BinarySearchFunc(s.lists[l], key, compare)
	ok := true
	if !is {
		var node uint64
		if node, ok = s.takes(2); ok {
			s.lists[l] = slices.Insert(slices.Clone(s.lists[l]), at, entry{key, node})
		}
	}
	s.theirs(t, func() {
		if got, err := list.Insert(s.b, far, l, key); got != (ok && !is) || (err == api.OK) != ok {
			t.Fatalf("Insert answers %v, %v", got, err)
		}
	})
}

func compare(e entry, key uint64) int {
	switch {
	case e.word < key:
		return -1
	case e.word > key:
		return 1
	}
	return 0
}

func (s *shelf) remove(t *testing.T, l, key uint64) {
	t.Helper()
	at, is := slices.BinarySearchFunc(s.lists[l], key, compare)
	if is {
		s.back[2] = append(s.back[2], s.lists[l][at].node)
		s.lists[l] = slices.Delete(slices.Clone(s.lists[l]), at, at+1)
	}
	s.theirs(t, func() {
		if got, err := list.Remove(s.b, far, l, key); got != is || err != api.OK {
			t.Fatalf("Remove answers %v, %v", got, err)
		}
	})
}

// takesOut takes all out of a queue or a list.
func (s *shelf) takesOut(t *testing.T, kind api.PartKind, header uint64) {
	t.Helper()
	shelved := s.queues
	if kind == api.PartList {
		shelved = s.lists
	}
	o := own{kind, shelved[header]}
	shelved[header] = nil
	s.theirs(t, func() {
		if got := takes(kind, header)(s.b); got != (answer{part: o.partOf()}) {
			t.Fatalf("answers %v, not %v", got, o.partOf())
		}
		s.parts = append(s.parts, o)
	})
}

// turn changes a part's words: only its own cells.
func (s *shelf) turn(t *testing.T, n int, f func(uint64) uint64) {
	t.Helper()
	want := s.b.words.behind(nil)
	o := &s.parts[n]
	o.entries = slices.Clone(o.entries)
	for m := range o.entries {
		o.entries[m].word = f(o.entries[m].word)
		want.set(o.entries[m].node, o.entries[m].word)
	}
	if got := turns(o.partOf(), f)(s.b); got != nothing {
		t.Fatalf("Turn answers %v", got)
	}
	if !maps.Equal(s.b.words, want) {
		t.Fatalf("Turn has changed other cells")
	}
	s.whole(t)
}

func (s *shelf) give(t *testing.T, n int) {
	t.Helper()
	o := s.parts[n]
	s.parts = slices.Delete(s.parts, n, n+1)
	for _, e := range o.entries {
		s.back[2] = append(s.back[2], e.node)
	}
	s.theirs(t, func() {
		if got := gives(far, o.partOf())(s.b); got != nothing {
			t.Fatalf("Give answers %v", got)
		}
	})
}

// layBack lays a part into a queue, if it may.
func (s *shelf) layBack(t *testing.T, n int, q uint64) {
	t.Helper()
	o := s.parts[n]
	if o.kind != api.PartQueue || len(s.queues[q]) > 0 {
		had := s.b.words.behind(nil)
		s.theirs(t, func() {
			if got := lays(q, o.partOf())(s.b); got != wrong(api.ErrArg) || !maps.Equal(s.b.words, had) {
				t.Fatalf("Back answers %v", got)
			}
		})
		return
	}
	s.parts = slices.Delete(s.parts, n, n+1)
	s.queues[q] = o.entries
	s.theirs(t, func() {
		if got := lays(q, o.partOf())(s.b); got != nothing {
			t.Fatalf("Back answers %v", got)
		}
	})
}

// step makes one drawn call.
func (s *shelf) step(t *testing.T, d *drawn, word uint64) {
	t.Helper()
	queues, lists := slices.Sorted(maps.Keys(s.queues)), slices.Sorted(maps.Keys(s.lists))
	n := d.below(40)
	switch {
	case len(queues) < 2 || n == 0 && len(queues) < 4:
		s.lay(t, api.PartQueue)
	case len(lists) < 1 || n == 1 && len(lists) < 3:
		s.lay(t, api.PartList)
	case n < 11:
		s.put(t, queues[d.below(len(queues))], word)
	case n < 15:
		s.take(t, queues[d.below(len(queues))])
	case n < 23:
		s.insert(t, lists[d.below(len(lists))], word%50)
	case n < 26:
		s.remove(t, lists[d.below(len(lists))], word%50)
	case n < 28:
		s.takesOut(t, api.PartQueue, queues[d.below(len(queues))])
	case n < 29:
		s.takesOut(t, api.PartList, lists[d.below(len(lists))])
	case len(s.parts) == 0:
	case n < 32:
		s.turn(t, d.below(len(s.parts)), func(had uint64) uint64 { return had*word + 1 })
	case n < 35 || len(s.parts) > 5:
		s.give(t, d.below(len(s.parts)))
	default:
		s.layBack(t, d.below(len(s.parts)), queues[d.below(len(queues))])
	}
}
