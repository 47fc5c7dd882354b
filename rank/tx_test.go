package rank

import (
	"cmp"
	"fmt"
	"maps"
	"math"
	"slices"
	"testing"

	"parley/api"
	rooms "parley/room"
	numbers "parley/word"
)

const top = math.MaxUint64

var (
	minus = math.Copysign(0, -1)
	inf   = math.Inf(1)
	nan   = math.NaN()
)

// drawn is a row of numbers that looks drawn, and is the same each time.
type drawn uint64

func (d *drawn) next() uint64 {
	*d = *d*6364136223846793005 + 1442695040888963407
	return uint64(*d >> 33)
}

// below is a number from 0 to n - 1.
func (d *drawn) below(n int) int { return int(d.next() % uint64(n)) }

// entry is an entry of a heap by its two words: those of numbers tell them to the last bit, and of any NaN that it is one.
type entry struct{ key, word uint64 }

// of is an entry by its number.
func of(key float64, word uint64) entry { return entry{numbers.OfReal(key), word} }

// told is an entry as a call has told it.
func told(r api.Ranked) entry { return of(r.Key, r.Word) }

func (e entry) String() string {
	key, _ := numbers.Real(e.key)
	return fmt.Sprint(key, " ", e.word)
}

// byOrder compares entries as the chapter's order has them.
func byOrder(a, b entry) int {
	return cmp.Or(cmp.Compare(a.key, b.key), cmp.Compare(a.word, b.word))
}

// inOrder is these entries in their order.
func inOrder(list ...entry) []entry {
	list = slices.Clone(list)
	slices.SortFunc(list, byOrder)
	return list
}

// access is a call of a tx.
type access struct {
	put        bool
	addr, word uint64
}

// words is cells by their addresses: those that are not there are 0.
type words map[uint64]uint64

func (w words) set(addr, word uint64) {
	delete(w, addr)
	if word != 0 {
		w[addr] = word
	}
}

// behind is the cells when these accesses were made.
func (w words) behind(trace []access) words {
	out := maps.Clone(w)
	for _, a := range trace {
		if a.put {
			out.set(a.addr, a.word)
		}
	}
	return out
}

// book is a tx over cells of all addresses. It writes down how it is called, and says no, with an error and a word that means nothing, at one of its calls (-1: at none).
type book struct {
	words words
	trace []access
	no    int
	err   api.Errno
}

func open(w words) *book { return &book{words: maps.Clone(w), no: -1} }

// note writes an access down, and tells whether it is the one that is refused.
func (b *book) note(a access) bool {
	b.trace = append(b.trace, a)
	return len(b.trace)-1 == b.no
}

func (b *book) Get(addr uint64) (uint64, api.Errno) {
	if b.note(access{addr: addr}) {
		return 77, b.err
	}
	return b.words[addr], api.OK
}

func (b *book) Put(addr, word uint64) api.Errno {
	if b.note(access{put: true, addr: addr, word: word}) {
		return b.err
	}
	b.words.set(addr, word)
	return api.OK
}

// puts is how many of the accesses were puts.
func (b *book) puts() int {
	n := 0
	for _, a := range b.trace {
		if a.put {
			n++
		}
	}
	return n
}

// answer is what any of the calls answers.
type answer struct {
	word  uint64
	entry entry
	has   bool
	list  string
	err   api.Errno
}

// call is one of the calls with all of its arguments but the tx.
type call func(api.Tx) answer

func lay(room uint64) call {
	return func(tx api.Tx) answer {
		word, err := New(tx, room)
		return answer{word: word, err: err}
	}
}

func push(room, h uint64, e entry) call {
	key, _ := numbers.Real(e.key)
	return func(tx api.Tx) answer { return answer{err: Push(tx, room, h, key, e.word)} }
}

// entryOr is an entry that is there; else the zero one, whose number is 0 to the last bit.
func entryOr(r api.Ranked, has bool) entry {
	if !has && math.Float64bits(r.Key) == 0 && r.Word == 0 {
		return entry{}
	}
	return told(r)
}

func pop(room, h uint64) call {
	return func(tx api.Tx) answer {
		r, has, err := Pop(tx, room, h)
		return answer{entry: entryOr(r, has), has: has, err: err}
	}
}

func firstOf(h uint64) call {
	return func(tx api.Tx) answer {
		r, has, err := First(tx, h)
		return answer{entry: entryOr(r, has), has: has, err: err}
	}
}

func length(h uint64) call {
	return func(tx api.Tx) answer {
		word, err := Len(tx, h)
		return answer{word: word, err: err}
	}
}

func joins(h, other uint64) call {
	return func(tx api.Tx) answer { return answer{err: Join(tx, h, other)} }
}

func allOf(h uint64) call {
	return func(tx api.Tx) answer {
		list, err := All(tx, h)
		var entries []entry
		for _, r := range list {
			entries = append(entries, told(r))
		}
		return answer{list: text(entries), err: err}
	}
}

func clearAll(room, h uint64) call {
	return func(tx api.Tx) answer {
		word, err := Clear(tx, room, h)
		return answer{word: word, err: err}
	}
}

// text is entries one behind the other.
func text(list []entry) string {
	if len(list) == 0 {
		return ""
	}
	return fmt.Sprint(list)
}

// nothing is what a call answers that has nothing to tell, and is not refused.
var nothing = answer{}

// tells is an answer of one entry that is there.
func tells(e entry) answer { return answer{entry: e, has: true} }

// lists is an answer of entries.
func lists(list ...entry) answer { return answer{list: text(list)} }

// noes is what a tx may answer but OK: errors that the calls themselves answer, too, and numbers that nobody owns.
var noes = []api.Errno{api.ErrStale, api.ErrNil, api.ErrRoom, api.ErrHeap, 12345, -1}

// asks asks a call over these cells for its answer; then the same of a tx that says no at each of its accesses: that error comes at once. What the cells are behind the call is answered.
func asks(t *testing.T, w words, c call, want answer) words {
	t.Helper()
	b := open(w)
	if got := c(b); got != want {
		t.Fatalf("answers %v, not %v", got, want)
	}
	if len(b.trace) == 0 {
		t.Errorf("asks the tx nothing")
	}
	if (want.err == api.ErrRoom || want.err == api.ErrHeap) && b.puts() > 0 {
		t.Errorf("is refused for %v, and has put: %v", want.err, b.trace)
	}
	for no := range b.trace {
		refused(t, w, c, no, noes[no%len(noes)], b.trace)
		refused(t, w, c, no, api.ErrRange, b.trace)
	}
	return b.words
}

// looks asks a call that only looks: it puts nothing.
func looks(t *testing.T, w words, c call, want answer) {
	t.Helper()
	asks(t, w, c, want)
	b := open(w)
	if c(b); b.puts() > 0 {
		t.Errorf("who only looks has put: %v", b.trace)
	}
}

// refused asks what a call does, if the tx says no at one of its accesses.
func refused(t *testing.T, w words, c call, no int, err api.Errno, trace []access) {
	t.Helper()
	b := open(w)
	b.no, b.err = no, err
	if got := c(b); got != (answer{err: err}) {
		t.Errorf("the access %d is refused for %v: answers %v", no, err, got)
	}
	if !slices.Equal(b.trace, trace[:no+1]) {
		t.Errorf("the access %d is refused: goes by %v, not by %v", no, b.trace, trace[:no+1])
	}
	if has := w.behind(trace[:no]); !maps.Equal(b.words, has) {
		t.Errorf("the access %d is refused: the cells are %v, not %v", no, b.words, has)
	}
}

// place is where a room's header lies, and from where on up to below where its cells are.
type place struct{ room, from, to uint64 }

// places is rooms whose header, heaps or nodes lie at the edges of words, too; some go round.
var places = []place{
	{0, 18, 80},
	{500, 3, 65},
	{0, top - 62, top},
	{top - 17, 0, 62},
	{top, 17, 80},
	{7, 1<<63 - 30, 1<<63 + 32},
}

// laid is the cells of a room, in which all that is left has words that nobody laid there.
func laid(p place) words {
	w := words{}
	for addr := p.from; addr != p.to; addr++ {
		w[addr] = 9000 + addr - p.from
	}
	b := open(w)
	rooms.Lay(b, p.room, p.from, p.to)
	return b.words
}

// nodeAt is where the node of a number lies, of a heap that is built here.
func nodeAt(h uint64, n int) uint64 { return h + 2 + 5*uint64(n) }

// split parts the entries behind a root, which come in their order, into those of either child.
type split func(behind []int) ([]int, []int)

// splits is how heaps are built here: all of the entries to the left; by halves, so that to the right there are as many nodes as can be; and by chance.
var splits = map[string]split{
	"chain":  func(behind []int) ([]int, []int) { return behind, nil },
	"halves": halves,
	"drawn":  byChance(9),
}

// halves parts entries in turn.
func halves(behind []int) (one, other []int) {
	for n, k := range behind {
		if n%2 == 0 {
			one = append(one, k)
		} else {
			other = append(other, k)
		}
	}
	return one, other
}

// byChance parts entries as numbers come that look drawn.
func byChance(seed drawn) split {
	return func(behind []int) (one, other []int) {
		for _, k := range behind {
			if seed.below(2) == 0 {
				one = append(one, k)
			} else {
				other = append(other, k)
			}
		}
		return one, other
	}
}

// grow lays the nodes of these entries, which come in their order, and tells the word that leads to their root, and its rank.
func grow(w words, h uint64, s split, list []entry, which []int) (to, rank uint64) {
	if len(which) == 0 {
		return 0, 0
	}
	one, other := s(which[1:])
	left, leftRank := grow(w, h, s, list, one)
	right, rightRank := grow(w, h, s, list, other)
	if rightRank > leftRank {
		left, right, rightRank = right, left, leftRank
	}
	node, rank := nodeAt(h, which[0]), rightRank+1
	for n, word := range []uint64{list[which[0]].key, list[which[0]].word, left, right, rank} {
		w.set(node+uint64(n), word)
	}
	return node + 1, rank
}

// sow lays a heap of these entries at h, the node of each behind that of the one ahead: it is laid here, not by the calls that are asked.
func sow(w words, h uint64, s split, list ...entry) {
	var which []int
	for n := range list {
		which = append(which, n)
	}
	slices.SortStableFunc(which, func(a, b int) int { return byOrder(list[a], list[b]) })
	root, _ := grow(w, h, s, list, which)
	w.set(h, uint64(len(list)))
	w.set(h+1, root)
}

// built is the cells of a room with a heap of these entries, and where it lies.
func built(p place, s split, list ...entry) (words, uint64) {
	w := laid(p)
	sow(w, p.from, s, list...)
	w.set(p.room, nodeAt(p.from, len(list)))
	return w, p.from
}

// both is the cells of a room with two heaps of these entries, and where they lie.
func both(p place, s split, list, others []entry) (words, uint64, uint64) {
	w, h := built(p, s, list...)
	g := nodeAt(h, len(list))
	sow(w, g, s, others...)
	w.set(p.room, nodeAt(g, len(others)))
	return w, h, g
}

// nodes is the nodes of a heap as they lie in the cells, which are asked for all that a sound heap has.
func (w words) nodes(t *testing.T, h uint64) []uint64 {
	t.Helper()
	var nodes []uint64
	var rankOf func(to uint64, least entry) uint64
	rankOf = func(to uint64, least entry) uint64 {
		if to == 0 {
			return 0
		}
		node := to - 1
		own := entry{w[node], w[node+1]}
		if slices.Contains(nodes, node) || len(nodes) > 5000 {
			t.Fatalf("two ways lead to the node at %d", node)
		}
		if _, ok := numbers.Real(own.key); !ok || byOrder(own, least) < 0 {
			t.Fatalf("the node at %d has the entry %x %d, behind %x %d", node, own.key, own.word, least.key, least.word)
		}
		nodes = append(nodes, node)
		left, right := rankOf(w[node+2], own), rankOf(w[node+3], own)
		if right > left || w[node+4] != right+1 {
			t.Fatalf("the node at %d has the rank %d, its children %d and %d", node, w[node+4], left, right)
		}
		return right + 1
	}
	rankOf(w[h+1], entry{})
	if n := uint64(len(nodes)); n != w[h] {
		t.Fatalf("the count is %d, and there are %d nodes", w[h], n)
	}
	return nodes
}

// entries is what a heap has as it lies in the cells, in the order.
func (w words) entries(t *testing.T, h uint64) []entry {
	t.Helper()
	var list []entry
	for _, node := range w.nodes(t, h) {
		list = append(list, entry{w[node], w[node+1]})
	}
	return inOrder(list...)
}

// is asks for a heap's entries as they lie in the cells, in whatever order they are handed in.
func is(t *testing.T, w words, h uint64, want ...entry) {
	t.Helper()
	if got := w.entries(t, h); !slices.Equal(got, inOrder(want...)) {
		t.Errorf("the entries are %v, not %v", got, want)
	}
}

// holds asks a room for how many cells were never taken, and for the pieces of a node's size that were given back, the last one first.
func holds(t *testing.T, w words, room, left uint64, given ...uint64) {
	t.Helper()
	if got, err := rooms.Left(open(w), room); got != left || err != api.OK {
		t.Errorf("the room has %d left, %v, not %d", got, err, left)
	}
	if got := given5(t, w, room); !slices.Equal(got, given) {
		t.Errorf("given back were %v, not %v", got, given)
	}
}

// given5 is a room's pieces of a node's size that were given back, the last one first.
func given5(t *testing.T, w words, room uint64) []uint64 {
	t.Helper()
	got, err := rooms.Given(open(w), room, 5)
	if err != api.OK {
		t.Fatal(err)
	}
	return got
}
