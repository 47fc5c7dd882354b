package rank

import (
	"maps"
	"testing"

	"parley/api"
	numbers "parley/word"
)

// node is a node's cells: its number's word, its word, what leads to its children, its rank.
type node [5]uint64

// knot is a heap at 20 with a count and a root, and nodes that lie from 22 on, each behind the one ahead; there are a room at 0 and a sound heap at 60 with one entry.
func knot(count, root uint64, nodes ...node) words {
	w := words{0: 80, 1: 100}
	w.set(20, count)
	w.set(21, root)
	for n, cells := range nodes {
		for k, word := range cells {
			w.set(nodeAt(20, n)+uint64(k), word)
		}
	}
	sow(w, 60, halves, of(1.5, 4))
	return w
}

// What leads to the first nodes of such a heap, and the words of some numbers.
const (
	one   = 23
	two   = 28
	three = 33
	four  = 38
)

var key = [...]uint64{0: of(0, 0).key, 1: of(1, 0).key, 2: of(2, 0).key, 3: of(3, 0).key}

// broken is heaps that are not sound.
var broken = []struct {
	name string
	w    words
}{
	{"the count is too small by one", knot(1, one, node{key[1], 0, two, 0, 1}, node{key[2], 0, 0, 0, 1})},
	{"the count is too great by one", knot(3, one, node{key[1], 0, two, 0, 1}, node{key[2], 0, 0, 0, 1})},
	{"the count is too great by one, of one", knot(2, one, node{key[1], 0, 0, 0, 1})},
	{"the count is too small by one of three", knot(2, one, node{key[1], 0, two, three, 2}, node{key[2], 0, 0, 0, 1}, node{key[2], 0, 0, 0, 1})},
	{"the count is the greatest word", knot(top, one, node{key[1], 0, 0, 0, 1})},
	{"the count is 2^31 - 1", knot(1<<31-1, one, node{key[1], 0, 0, 0, 1})},
	{"the count is 2^31", knot(1<<31, one, node{key[1], 0, 0, 0, 1})},
	{"the count is 2^32 and 1", knot(1<<32+1, one, node{key[1], 0, 0, 0, 1})},
	{"the count is 0, and there is a root", knot(0, one, node{key[1], 0, 0, 0, 1})},
	{"there is a count, and no root", knot(1, 0)},
	{"there is a great count, and no root", knot(top, 0)},
	{"a left child ahead of its node, by its number", knot(2, one, node{key[2], 0, two, 0, 1}, node{key[1], 0, 0, 0, 1})},
	{"a left child ahead of its node, by its word", knot(2, one, node{key[2], 1, two, 0, 1}, node{key[2], 0, 0, 0, 1})},
	{"a left child ahead of its node, the words as words", knot(2, one, node{key[2], top, two, 0, 1}, node{key[2], 1, 0, 0, 1})},
	{"a right child ahead of its node", knot(3, one, node{key[2], 0, two, three, 2}, node{key[2], 0, 0, 0, 1}, node{key[1], 9, 0, 0, 1})},
	{"a child ahead of its node, not ahead of the root", knot(3, one, node{key[1], 0, two, 0, 1}, node{key[3], 0, three, 0, 1}, node{key[2], 0, 0, 0, 1})},
	{"0 above -0", knot(2, one, node{of(0, 0).key, 0, two, 0, 1}, node{of(minus, 0).key, 0, 0, 0, 1})},
	{"NaN above +Inf", knot(2, one, node{of(nan, 0).key, 0, two, 0, 1}, node{of(inf, 0).key, 0, 0, 0, 1})},
	{"a right child and no left one", knot(2, one, node{key[1], 0, 0, two, 1}, node{key[2], 0, 0, 0, 1})},
	{"a right child and no left one, the rank is the right one's and 1", knot(2, one, node{key[1], 0, 0, two, 2}, node{key[2], 0, 0, 0, 1})},
	{"a right child with a greater rank", knot(5, one, node{key[1], 0, two, three, 3}, node{key[2], 0, 0, 0, 1}, node{key[2], 0, four, four + 5, 2}, node{key[3], 0, 0, 0, 1}, node{key[3], 0, 0, 0, 1})},
	{"the rank of one node is 0", knot(1, one, node{key[1], 0, 0, 0, 0})},
	{"the rank of one node is 2", knot(1, one, node{key[1], 0, 0, 0, 2})},
	{"the rank of one node is the greatest word", knot(1, one, node{key[1], 0, 0, 0, top})},
	{"the rank is the left child's and 1", knot(2, one, node{key[1], 0, two, 0, 2}, node{key[2], 0, 0, 0, 1})},
	{"the rank of a node with two children is 1", knot(3, one, node{key[1], 0, two, three, 1}, node{key[2], 0, 0, 0, 1}, node{key[2], 0, 0, 0, 1})},
	{"the rank of a left child is wrong", knot(2, one, node{key[1], 0, two, 0, 1}, node{key[2], 0, 0, 0, 2})},
	{"the rank of a right child is 0", knot(3, one, node{key[1], 0, two, three, 1}, node{key[2], 0, 0, 0, 1}, node{key[2], 0, 0, 0, 0})},
	{"a word that is no number's: 0", knot(1, one, node{0, 0, 0, 0, 1})},
	{"a word that is no number's: below that of -Inf", knot(1, one, node{of(-inf, 0).key - 1, 0, 0, 0, 1})},
	{"a word that is no number's: above that of +Inf", knot(1, one, node{of(inf, 0).key + 1, 0, 0, 0, 1})},
	{"a word that is no number's: below that of NaN", knot(1, one, node{top - 1, 0, 0, 0, 1})},
	{"a child's word that is no number's", knot(2, one, node{key[1], 0, two, 0, 1}, node{top - 1, 0, 0, 0, 1})},
	{"a right child's word that is no number's", knot(3, one, node{key[1], 0, two, three, 2}, node{key[2], 0, 0, 0, 1}, node{top - 1, 0, 0, 0, 1})},
	{"both children are one node", knot(2, one, node{key[1], 0, two, two, 2}, node{key[2], 0, 0, 0, 1})},
	{"both children are one node, the count is 3", knot(3, one, node{key[1], 0, two, two, 2}, node{key[2], 0, 0, 0, 1})},
	{"a node is the child of two", knot(4, one, node{key[1], 0, two, three, 2}, node{key[2], 0, four, 0, 1}, node{key[2], 0, four, 0, 1}, node{key[3], 0, 0, 0, 1})},
	{"a node is the child of two, the count is 5", knot(5, one, node{key[1], 0, two, three, 2}, node{key[2], 0, four, 0, 1}, node{key[2], 0, four, 0, 1}, node{key[3], 0, 0, 0, 1})},
	{"a node is a child and its child's child", knot(3, one, node{key[1], 0, two, three, 2}, node{key[2], 0, three, 0, 1}, node{key[2], 0, 0, 0, 1})},
	{"a node is its own left child", knot(1, one, node{key[1], 0, one, 0, 1})},
	{"a node is its own left child, the count is 2", knot(2, one, node{key[1], 0, one, 0, 1})},
	{"a node is its own left child, the count is great", knot(1<<31-1, one, node{key[1], 0, one, 0, 1})},
	{"a node is its own right child", knot(2, one, node{key[1], 0, two, one, 2}, node{key[2], 0, 0, 0, 1})},
	{"a node is its own right child, the count is 3", knot(3, one, node{key[1], 0, two, one, 2}, node{key[2], 0, 0, 0, 1})},
	{"a node is both of its own children", knot(1000, one, node{key[1], 0, one, one, 2})},
	{"a child leads back to the root", knot(2, one, node{key[1], 0, two, 0, 1}, node{key[1], 0, one, 0, 1})},
	{"a child leads back to the root, the count is great", knot(1000, one, node{key[1], 0, two, 0, 1}, node{key[1], 0, one, 0, 1})},
	{"children go round to the right", knot(1000, one, node{key[1], 0, three, two, 2}, node{key[1], 0, 0, one, 2}, node{key[2], 0, 0, 0, 1})},
	{"the root leads to the heap's own cells", knot(1, 21)},
	{"the root leads to the room's header", knot(1, 1)},
}

// P24.3: All of a heap that is not sound; beside it the tx's errors come at once.
func TestAllOfUnsoundHeaps(t *testing.T) {
	for _, r := range broken {
		t.Run(r.name, func(t *testing.T) { looks(t, r.w, allOf(20), answer{err: api.ErrHeap}) })
	}
}

// 'Errors': all calls on such heaps end, and answer the tx's errors at once; who only looks puts nothing, and who is refused for ErrHeap has put nothing.
func TestCallsOnUnsoundHeaps(t *testing.T) {
	for _, r := range broken {
		t.Run(r.name, func(t *testing.T) {
			for _, e := range []entry{of(-1, 0), of(1, 0), of(1, 5), of(2, 9), of(9, 9), of(nan, top)} {
				ends(t, "Push", r.w, push(0, 20, e))
			}
			for name, c := range every(0, 20, 60, of(2, 2)) {
				ends(t, name, r.w, c)
			}
			ends(t, "Join", r.w, joins(60, 20))
			ends(t, "Join", r.w, joins(20, 21))
		})
	}
}

// enough is how often a tx is asked that has cells without end, before it says no: a call that has no end fails, and does not hang.
const enough = 100000

// longest is how often a call asks at most that goes along two trees, of which each may have 64 nodes to the right.
const longest = 2*64*9 + 40

// ends asks whether a call on a heap that is not sound ends soon, and answers the tx's errors at once.
func ends(t *testing.T, name string, w words, c call) {
	t.Helper()
	b := open(w)
	got := c(b)
	if got.err != api.OK && (got != (answer{err: got.err}) || b.puts() > 0 || !maps.Equal(b.words, w)) {
		t.Errorf("%s answers %v behind %v", name, got, b.trace)
	}
	if got.err != api.OK && got.err != api.ErrHeap && got.err != api.ErrRoom {
		t.Errorf("%s answers %v", name, got)
	}
	if look := name == "First" || name == "Len" || name == "All"; look && b.puts() > 0 {
		t.Errorf("%s has put: %v", name, b.trace)
	}
	if len(b.trace) > longest {
		t.Errorf("%s ends behind %d accesses", name, len(b.trace))
	}
	for no := range min(len(b.trace), 60) {
		refused(t, w, c, no, api.ErrStale, b.trace)
		refused(t, w, c, no, 12345, b.trace)
	}
}

// small is a tx over few cells, that is laid anew often.
type small struct {
	words      [80]uint64
	asked, put int
}

func (s *small) Get(addr uint64) (uint64, api.Errno) {
	s.asked++
	if s.asked > enough {
		return 0, api.ErrFuel
	}
	if addr >= uint64(len(s.words)) {
		return 0, api.ErrRange
	}
	return s.words[addr], api.OK
}

func (s *small) Put(addr, word uint64) api.Errno {
	s.asked++
	s.put++
	if addr >= uint64(len(s.words)) {
		return api.ErrRange
	}
	s.words[addr] = word
	return api.OK
}

// plain is what All must answer of the few nodes in these cells: each is gone to from the root on, and all that a sound heap has is asked for at the end.
func plain(s *small, h uint64) answer {
	count, way := s.words[h], []uint64{}
	if root := s.words[h+1]; root != 0 {
		way = append(way, root-1)
	}
	var list []entry
	for n := 0; n < len(way); n++ {
		if n == 4 {
			return answer{err: api.ErrHeap}
		}
		at := way[n]
		list = append(list, entry{s.words[at], s.words[at+1]})
		if _, ok := numbers.Real(s.words[at]); !ok {
			return answer{err: api.ErrHeap}
		}
		ranks := [2]uint64{}
		for side, to := range s.words[at+2 : at+4] {
			if to == 0 {
				continue
			}
			way = append(way, to-1)
			ranks[side] = s.words[to-1+4]
			if byOrder(entry{s.words[to-1], s.words[to]}, list[n]) < 0 {
				return answer{err: api.ErrHeap}
			}
		}
		if ranks[1] > ranks[0] || s.words[at+4] != ranks[1]+1 {
			return answer{err: api.ErrHeap}
		}
	}
	twice := map[uint64]bool{}
	for _, at := range way {
		if twice[at] {
			return answer{err: api.ErrHeap}
		}
		twice[at] = true
	}
	if uint64(len(way)) != count {
		return answer{err: api.ErrHeap}
	}
	return lists(inOrder(list...)...)
}

// tries asks All, which tells what it must, and all other calls over the same cells, which end; of heaps that are not sound these only if it is said.
func tries(t *testing.T, s *small, others bool) bool {
	t.Helper()
	want, was := plain(s, 20), *s
	if got := allOf(20)(s); got != want || s.put > 0 {
		t.Fatalf("All of %v answers %v, not %v", was.words, got, want)
	}
	if want.err != api.OK && !others {
		return false
	}
	calls := []call{push(0, 20, of(1, 7)), push(0, 20, of(5, 7)), pop(0, 20), firstOf(20), length(20), joins(20, 70), joins(70, 20), clearAll(0, 20)}
	for n, c := range calls {
		s := was
		got := c(&s)
		if s.asked > longest || got.err != api.OK && (got.err != api.ErrHeap || s.put > 0) {
			t.Fatalf("the call %d on %v answers %v behind %d accesses", n, was.words, got, s.asked)
		}
		if want.err != api.OK {
			continue
		}
		if got.err != api.OK || plain(&s, 20).err != api.OK {
			t.Fatalf("the call %d on %v, which is sound, answers %v: then %v", n, was.words, got, s.words)
		}
	}
	return want.err == api.OK
}

// around lays a room at 0, and a heap at 70 with one entry.
func (s *small) around() {
	*s = small{}
	s.words[0], s.words[1] = 50, 60
	s.words[70], s.words[71] = 1, 74
	s.words[73], s.words[77] = key[2], 1
}

// All heaps of two nodes, wherever they lead, with any small count, any small ranks, and numbers and none: All tells the sound ones, and ErrHeap of all others.
func TestAllHeapsOfTwoNodes(t *testing.T) {
	leads := []uint64{0, one, two}
	sound := 0
	for code := range 4 * 3 * 81 * 16 * 9 {
		s, k := &small{}, code
		pick := func(n int) int {
			k, n = k/n, k%n
			return n
		}
		s.around()
		s.words[20] = uint64(pick(4))
		s.words[21] = leads[pick(3)]
		for n := range 2 {
			at := nodeAt(20, n)
			s.words[at] = []uint64{5, key[1], key[2]}[pick(3)]
			s.words[at+2], s.words[at+3] = leads[pick(3)], leads[pick(3)]
			s.words[at+4] = uint64(pick(4))
		}
		if tries(t, s, true) {
			sound++
		}
	}
	// None: all that the nodes may have. One: 2 numbers, and all that the other may have. Two: either above, 3 pairs of numbers.
	if want := 81*16*9 + 2*2*(9*4*3) + 2*3; sound != want {
		t.Errorf("%d heaps are sound, not %d", sound, want)
	}
}

// All heaps of three nodes, wherever they lead, the first one being the root.
func TestAllHeapsOfThreeNodes(t *testing.T) {
	leads := []uint64{0, one, two, three}
	sound := 0
	for code := range 2 * 4096 * 8 * 4 {
		s, k := &small{}, code
		pick := func(n int) int {
			k, n = k/n, k%n
			return n
		}
		s.around()
		s.words[20], s.words[21] = uint64(2+pick(2)), one
		for n := range 3 {
			at := nodeAt(20, n)
			s.words[at], s.words[at+1] = key[1], uint64(pick(2))
			s.words[at+2], s.words[at+3] = leads[pick(4)], leads[pick(4)]
			s.words[at+4] = 1
			if n < 2 {
				s.words[at+4] = uint64(1 + pick(2))
			}
		}
		if tries(t, s, code%5 == 0) {
			sound++
		}
	}
	// Two: the second or the third one below the root, and all that the other may have. Three: one below the other, in either order, with 4 rows of words that don't fall; or both below the root, by either side, with 5.
	if want := 3*(16*2*2) + 3*(16*2) + 2*4 + 2*5; sound != want {
		t.Errorf("%d heaps are sound, not %d", sound, want)
	}
}

// forest is a tx of heaps at 10 and 12 that have no end: a node lies at each fifth cell from 20 on, its words rise, and it leads to the next one by one of its sides.
type forest struct {
	count uint64
	side  uint64
	asked int
}

func (f *forest) Get(addr uint64) (uint64, api.Errno) {
	f.asked++
	switch {
	case f.asked > enough:
		return 0, api.ErrFuel
	case addr == 10, addr == 12:
		return f.count, api.OK
	case addr == 11:
		return 21, api.OK
	case addr == 13:
		return 5000021, api.OK
	case addr >= 1<<40:
		return 1 << 50, api.OK
	}
	switch k := addr % 5; {
	case k == 0:
		return key[1], api.OK
	case k == 1:
		return addr, api.OK
	case k == f.side:
		return addr - k + 6, api.OK
	case k == 4:
		return 1, api.OK
	}
	return 0, api.OK
}

func (f *forest) Put(uint64, uint64) api.Errno { return api.OK }

// 'Errors': calls on nodes without end do end: All and Clear behind as many nodes as the count says, the others soon.
func TestNodesWithoutEnd(t *testing.T) {
	for _, side := range []uint64{2, 3} {
		for _, count := range []uint64{0, 1, 2, 1000, 1 << 31, 1 << 40, top} {
			for n, c := range []call{allOf(10), clearAll(1<<40, 10)} {
				f := &forest{count: count, side: side}
				if got := c(f); got != (answer{err: api.ErrHeap}) || f.asked > 5*1000+10 {
					t.Errorf("the call %d, with the count %d, answers %v behind %d accesses", n, count, got, f.asked)
				}
			}
			for n, c := range []call{push(1<<40, 10, of(0, 0)), push(1<<40, 10, of(9, 9)), pop(1<<40, 10), firstOf(10), length(10), joins(10, 12), joins(12, 10)} {
				f := &forest{count: count, side: side}
				if c(f); f.asked > longest {
					t.Errorf("the call %d, with the count %d, ends behind %d accesses", n, count, f.asked)
				}
			}
		}
	}
}

// constant is a tx whose cells all have one word.
type constant struct {
	word  uint64
	asked int
}

func (c *constant) Get(uint64) (uint64, api.Errno) {
	c.asked++
	if c.asked > enough {
		return 0, api.ErrFuel
	}
	return c.word, api.OK
}

func (c *constant) Put(uint64, uint64) api.Errno { return api.OK }

// All calls end where all cells have the same word.
func TestOneWordInAllCells(t *testing.T) {
	for _, word := range []uint64{0, 1, 2, 5, 1 << 31, key[0], key[1], 1 << 52, top - 1, top} {
		for _, h := range []uint64{0, 20, top - 1, top} {
			for name, c := range every(1000, h, 60, of(1, 1)) {
				tx := &constant{word: word}
				got := c(tx)
				if tx.asked > longest {
					t.Errorf("%s, all words being %x, ends behind %d accesses", name, word, tx.asked)
				}
				if name == "All" && word != 0 && got != (answer{err: api.ErrHeap}) {
					t.Errorf("All, all words being %x, answers %v", word, got)
				}
			}
		}
	}
}

// All calls end and none panics, whatever stands in the cells, and whatever they are handed.
func TestAnyCells(t *testing.T) {
	d := drawn(3)
	edges := []uint64{0, 1, 2, 17, 18, 19, 40, api.MaxCells, 1 << 31, 1 << 32, 1 << 63, top - 4, top - 2, top - 1, top, key[0], key[1], key[2], of(nan, 0).key}
	edge := func() uint64 {
		if d.below(3) > 0 {
			return uint64(d.below(24))
		}
		return edges[d.below(len(edges))]
	}
	for range 30000 {
		b := open(words{})
		for range d.below(40) {
			b.words.set(edge(), edge())
		}
		room, h, other := edge(), edge(), edge()
		for name, c := range every(room, h, other, entry{key[d.below(4)], edge()}) {
			b := open(b.words)
			got := c(b)
			switch got.err {
			case api.OK:
				if len(b.trace) > longest {
					t.Fatalf("%s goes by %d accesses", name, len(b.trace))
				}
			case api.ErrHeap, api.ErrRoom, api.ErrArg:
				if got != (answer{err: got.err}) || b.puts() > 0 {
					t.Fatalf("%s answers %v behind %v", name, got, b.trace)
				}
			default:
				t.Fatalf("%s answers %v", name, got.err)
			}
		}
	}
}

// A heap whose count and root do not agree whether there are entries is not changed.
func TestCountsAndRootsThatDoNotAgree(t *testing.T) {
	for _, w := range []words{knot(0, one, node{key[1], 0, 0, 0, 1}), knot(1, 0), knot(top, 0)} {
		for name, c := range map[string]call{"Push": push(0, 20, of(1, 1)), "Pop": pop(0, 20), "Join": joins(20, 60), "Join the other way": joins(60, 20), "All": allOf(20), "Clear": clearAll(0, 20)} {
			b := open(w)
			if got := c(b); got != (answer{err: api.ErrHeap}) || b.puts() > 0 {
				t.Errorf("%s answers %v behind %v", name, got, b.trace)
			}
		}
	}
}

// 'Errors': words that are no number's, where they would be told: no call tells a number of them.
func TestNoNumbers(t *testing.T) {
	for _, word := range []uint64{0, of(-inf, 0).key - 1, of(inf, 0).key + 1, top - 1} {
		w := knot(1, one, node{word, 7, 0, 0, 1})
		for name, c := range map[string]call{"First": firstOf(20), "Pop": pop(0, 20), "All": allOf(20)} {
			b := open(w)
			if got := c(b); got != (answer{err: api.ErrHeap}) || b.puts() > 0 {
				t.Errorf("%s of the word %x answers %v", name, word, got)
			}
		}
	}
}

// deep is the cells of two heaps at 20 and 25 with so many nodes each from the root to the right, the entries of which come in turn; of their left children just the rank is there.
func deep(many uint64) words {
	w := words{0: 1 << 20, 1: 1<<20 + 10}
	for k, h := range []uint64{20, 25} {
		w.set(h, 1<<62)
		for n := range many {
			at := 1000*(1+uint64(k)) + 5*n
			if n == 0 {
				w.set(h+1, at+1)
			} else {
				w.set(at-5+3, at+1)
			}
			w.set(at, key[1])
			w.set(at+1, 2*n+uint64(k))
			w.set(at+2, 501)
			w.set(at+4, many-n)
		}
	}
	w.set(504, 64)
	return w
}

// As many nodes to the right as sound heaps may have, are gone along; many more are not.
func TestDeepHeaps(t *testing.T) {
	last := of(9, 9)
	for _, many := range []uint64{1, 2, 63, 64} {
		for name, c := range map[string]call{"Push": push(0, 20, last), "Join": joins(20, 25), "Join the other way": joins(25, 20)} {
			if got := c(open(deep(many))); got != nothing {
				t.Errorf("%s of %d nodes to the right answers %v", name, many, got)
			}
		}
	}
	for name, c := range map[string]call{"Push": push(0, 20, last), "Join": joins(20, 25)} {
		ends(t, name, deep(1000/5-1), c)
	}
}
