package queue

import (
	"maps"
	"testing"

	"parley/api"
)

// broken is queues at 40 that are not whole, in a room at 0 of which nothing was taken or given back; the nodes lie at 43, 45, 47.
var broken = []struct {
	name  string
	cells words
}{
	{"the count is too great by one", words{40: 44, 41: 46, 42: 3, 43: 5, 44: 46, 45: 7}},
	{"the count is too great", words{40: 44, 41: 46, 42: 1000, 43: 5, 44: 46, 45: 7}},
	{"the count is the greatest word", words{40: 44, 41: 46, 42: top, 43: 5, 44: 46, 45: 7}},
	{"the count is too small", words{40: 44, 41: 46, 42: 1, 43: 5, 44: 46, 45: 7}},
	{"the count is too small, and the second cell is its last", words{40: 44, 41: 44, 42: 1, 43: 5, 44: 46, 45: 7}},
	{"the count is 0", words{40: 44, 41: 46, 42: 0, 43: 5, 44: 46, 45: 7}},
	{"the count is 0 of one node", words{40: 44, 41: 44, 42: 0, 43: 5}},
	{"the count is 0, the second cell, too", words{40: 44, 42: 0, 43: 5}},
	{"there is a count and no node", words{42: 1}},
	{"there is a count, a last node and no first one", words{41: 44, 42: 1, 43: 5}},
	{"there is a great count and no node", words{42: 1 << 63}},
	{"there is a last node and nothing else", words{41: 44, 43: 5}},
	{"the second cell is 0", words{40: 44, 42: 1, 43: 5}},
	{"the second cell is 0 of two nodes", words{40: 44, 42: 2, 43: 5, 44: 46, 45: 7}},
	{"the second cell is the first of two nodes", words{40: 44, 41: 44, 42: 2, 43: 5, 44: 46, 45: 7}},
	{"the second cell is the second of three nodes", words{40: 44, 41: 46, 42: 3, 43: 5, 44: 46, 45: 7, 46: 48, 47: 9}},
	{"the second cell is the last node, not plus 1", words{40: 44, 41: 45, 42: 2, 43: 5, 44: 46, 45: 7}},
	{"the second cell is no node", words{40: 44, 41: 1000, 42: 2, 43: 5, 44: 46, 45: 7}},
	{"the second cell is the greatest word", words{40: 44, 41: top, 42: 2, 43: 5, 44: 46, 45: 7}},
	{"the only node leads to itself", words{40: 44, 41: 44, 42: 1, 43: 5, 44: 44}},
	{"the only node leads to itself, the count is 2", words{40: 44, 41: 44, 42: 2, 43: 5, 44: 44}},
	{"the only node leads to itself, the count is MaxCells", words{40: 44, 41: 44, 42: api.MaxCells, 43: 5, 44: 44}},
	{"the second node leads back", words{40: 44, 41: 46, 42: 2, 43: 5, 44: 46, 45: 7, 46: 44}},
	{"the second node leads back, the count is 4", words{40: 44, 41: 46, 42: 4, 43: 5, 44: 46, 45: 7, 46: 44}},
	{"the second node leads back, the count is MaxCells", words{40: 44, 41: 46, 42: api.MaxCells, 43: 5, 44: 46, 45: 7, 46: 44}},
	{"the second node leads to itself", words{40: 44, 41: 46, 42: 3, 43: 5, 44: 46, 45: 7, 46: 46}},
	{"nodes go round, and none of them is the last", words{40: 44, 41: 48, 42: 5, 43: 5, 44: 46, 45: 7, 46: 44, 47: 9}},
	{"nodes go round, none is the last, the count is MaxCells", words{40: 44, 41: 48, 42: api.MaxCells, 43: 5, 44: 46, 45: 7, 46: 44, 47: 9}},
	{"the last node leads to no cell", words{40: 44, 41: 46, 42: 2, 43: 5, 44: 46, 45: 7, 46: 1000}},
	{"the last of two nodes is no cell, and the second cell another one", words{40: 44, 41: 46, 42: 2, 43: 5, 44: 1000, 45: 7}},
	{"the only node is no cell, and the second cell another one", words{40: 1000, 41: 44, 42: 1, 43: 5}},
}

// rest is a room at 0 whose cells are those from 20 on up to below 40.
func rest(cells words) words {
	w := cells.behind(nil)
	w.set(0, 20)
	w.set(1, 40)
	return w
}

// P23.3, P23.4: Words and Drop of queues that are not whole answer ErrQueue, by a tx that has all cells and by one that has the first 49 alone; other calls end.
func TestQueuesThatAreNotWhole(t *testing.T) {
	for _, r := range broken {
		t.Run(r.name, func(t *testing.T) {
			w := rest(r.cells)
			for name, c := range map[string]call{"Words": all(40), "Drop": drop(0, 40)} {
				for _, cells := range []uint64{49, top} {
					b := open(w)
					if got := c(within(b, cells)); got != (answer{err: api.ErrQueue}) {
						t.Errorf("%s answers %v", name, got)
					}
					if b.puts() > 0 || !maps.Equal(b.words, w) {
						t.Errorf("%s has put: %v", name, b.trace)
					}
				}
			}
			if r.cells[42] < 100 {
				asks(t, w, all(40), answer{err: api.ErrQueue})
				asks(t, w, drop(0, 40), answer{err: api.ErrQueue})
			}
			for name, c := range every(0, 40, 5) {
				ends(t, name, w, c)
			}
		})
	}
}

// ends asks whether a call on a queue that is not whole ends, and answers the tx's errors at once.
func ends(t *testing.T, name string, w words, c call) {
	t.Helper()
	b := open(w)
	if got := c(b); got.err != api.OK && got != (answer{err: got.err}) {
		t.Errorf("%s answers %v", name, got)
	}
	for no := range min(len(b.trace), 60) {
		refused(t, w, c, no, api.ErrStale, b.trace)
		refused(t, w, c, no, api.ErrRange, b.trace)
		refused(t, w, c, no, 12345, b.trace)
	}
}

// within is a tx that has the cells below a number alone: all others it refuses.
func within(b *book, cells uint64) api.Tx {
	return pair{
		get: func(addr uint64) (uint64, api.Errno) {
			if addr >= cells {
				return 3, api.ErrRange
			}
			return b.Get(addr)
		},
		put: func(addr, word uint64) api.Errno {
			if addr >= cells {
				return api.ErrRange
			}
			return b.Put(addr, word)
		},
	}
}

// All queues of three nodes, wherever they lead, with any last one and any small count: Words tells those that are whole, and ErrQueue of all others; Drop goes by the same.
func TestAllQueuesOfThreeNodes(t *testing.T) {
	leads := []uint64{0, 44, 46, 48}
	whole := 0
	for code := range 4 * 4 * 4 * 4 * 4 * 6 {
		w := rest(words{43: 5, 45: 7, 47: 5})
		for _, addr := range []uint64{40, 41, 44, 46, 48} {
			w.set(addr, leads[code%4])
			code /= 4
		}
		w.set(42, uint64(code))
		want := plainWords(w, 40)
		b := open(w)
		if got := all(40)(b); got != want || b.puts() > 0 {
			t.Fatalf("Words of %v answers %v, not %v", w, got, want)
		}
		b = open(w)
		if got := drop(0, 40)(b); got != (answer{err: want.err}) {
			t.Fatalf("Drop of %v answers %v", w, got)
		}
		if want.err == api.OK {
			whole++
		} else if b.puts() > 0 {
			t.Fatalf("Drop of %v has put", w)
		}
		for name, c := range every(0, 40, 5) {
			if b := open(w); c(b).err == api.OK && name != "Words" && name != "Drop" && len(b.trace) > 24 {
				t.Fatalf("%s on %v goes by %d accesses", name, w, len(b.trace))
			}
		}
	}
	// None: 64 ways for the nodes to lead. One: 3 nodes, 16 ways for the others. Two: 6 orders, 4 ways for the third. Three: 6 orders.
	if want := 64 + 3*16 + 6*4 + 6; whole != want {
		t.Errorf("%d queues are whole, not %d", whole, want)
	}
}

// plainWords is what Words must answer of a few nodes.
func plainWords(w words, q uint64) answer {
	var found []uint64
	last := uint64(0)
	for next := w[q]; next != 0 && len(found) < 10; next = w[next] {
		found, last = append(found, w[next-1]), next
	}
	if uint64(len(found)) != w[q+2] || last != w[q+1] {
		return answer{err: api.ErrQueue}
	}
	return answer{list: text(found)}
}

// line is a tx of a queue at 0 with so many words, 0, 1, 2, .., whose nodes lie one behind the other from 3 on; its count may be another.
type line struct{ many, count uint64 }

func (l line) Get(addr uint64) (uint64, api.Errno) {
	switch {
	case addr == 0:
		return 4, api.OK
	case addr == 1:
		return 2 + 2*l.many, api.OK
	case addr == 2:
		return l.count, api.OK
	case addr >= 3+2*l.many:
		return 0, api.ErrRange
	case addr%2 == 1:
		return (addr - 3) / 2, api.OK
	case addr == 2+2*l.many:
		return 0, api.OK
	}
	return addr + 2, api.OK
}

func (l line) Put(uint64, uint64) api.Errno { return api.ErrFull }

// P23.3: MaxCells words are told, and one more are not; the count counts.
func TestTheBoundOfWords(t *testing.T) {
	for _, many := range []uint64{1, 2, 1000, api.MaxCells - 1, api.MaxCells} {
		got, err := Words(line{many, many}, 0)
		if err != api.OK || uint64(len(got)) != many {
			t.Fatalf("Words of %d answers %d words, %v", many, len(got), err)
		}
		for n, word := range got {
			if word != uint64(n) {
				t.Fatalf("the word %d is %d", n, word)
			}
		}
		for _, count := range []uint64{many - 1, many + 1} {
			if got, err := Words(line{many, count}, 0); got != nil || err != api.ErrQueue {
				t.Errorf("Words of %d with the count %d answers %d words, %v", many, count, len(got), err)
			}
		}
	}
	for _, many := range []uint64{api.MaxCells + 1, api.MaxCells + 2, 1 << 17} {
		for _, count := range []uint64{many, api.MaxCells} {
			if got, err := Words(line{many, count}, 0); got != nil || err != api.ErrQueue {
				t.Errorf("Words of %d with the count %d answers %d words, %v", many, count, len(got), err)
			}
			if err := Drop(line{many, count}, 1000, 0); err != api.ErrQueue {
				t.Errorf("Drop of %d with the count %d answers %v", many, count, err)
			}
		}
	}
}

// P23.4: Drop of MaxCells words gives all of them back.
func TestDropOfMany(t *testing.T) {
	const many = api.MaxCells
	l := line{many, many}
	w := words{}
	for addr := range uint64(3 + 2*many) {
		word, _ := l.Get(addr)
		w.set(addr, word)
	}
	b := open(w)
	if err := Drop(b, 1<<40, 0); err != api.OK {
		t.Fatal(err)
	}
	var given []uint64
	for n := range uint64(many) {
		given = append(given, 3+2*(many-1-n))
	}
	gave(t, b.words, 1<<40, 2, given...)
	gave(t, b.words, 1<<40, 3, 0)
}

// endless is a tx of nodes without end: each cell has the address of the one behind it, plus 1; but the count is as it is said.
type endless struct {
	count uint64
	asked int
}

func (e *endless) Get(addr uint64) (uint64, api.Errno) {
	e.asked++
	if addr == 10 {
		return e.count, api.OK
	}
	return addr + 2, api.OK
}

func (e *endless) Put(uint64, uint64) api.Errno { return api.OK }

// P23.3, P23.4: Words and Drop of nodes without end do end; the others go by few accesses.
func TestNodesWithoutEnd(t *testing.T) {
	for _, count := range []uint64{0, 1, 2, 20, api.MaxCells, api.MaxCells + 1, 1 << 40, top} {
		for _, c := range []call{all(8), drop(1000, 8)} {
			tx := &endless{count: count}
			if got := c(tx); got != (answer{err: api.ErrQueue}) || tx.asked > 2*api.MaxCells+3 {
				t.Errorf("answers %v behind %d gets", got, tx.asked)
			}
		}
		for _, c := range []call{putIn(1000, 8, 5), takeOut(1000, 8), first(8), length(8)} {
			tx := &endless{count: count}
			if c(tx); tx.asked > 24 {
				t.Errorf("ends behind %d gets", tx.asked)
			}
		}
	}
}

// All calls end and none panics, whatever stands in the cells, and whatever they are handed.
func TestAnyCells(t *testing.T) {
	d := drawn(3)
	edges := []uint64{0, 1, 2, 17, 18, 19, 40, api.MaxCells, 1 << 32, 1 << 63, top - 2, top - 1, top}
	edge := func() uint64 {
		if d.below(3) > 0 {
			return uint64(d.below(24))
		}
		return edges[d.below(len(edges))]
	}
	for range 60000 {
		b := open(words{})
		for range d.below(40) {
			b.words.set(edge(), edge())
		}
		room, q, word := edge(), edge(), edge()
		for name, c := range every(room, q, word) {
			b := open(b.words)
			got := c(b)
			switch got.err {
			case api.OK:
				if name != "Words" && name != "Drop" && len(b.trace) > 24 {
					t.Fatalf("%s goes by %d accesses", name, len(b.trace))
				}
			case api.ErrQueue, api.ErrRoom:
				if got != (answer{err: got.err}) || b.puts() > 0 {
					t.Fatalf("%s answers %v behind %v", name, got, b.trace)
				}
			default:
				t.Fatalf("%s answers %v", name, got.err)
			}
		}
	}
}
