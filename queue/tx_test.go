package queue

import (
	"fmt"
	"maps"
	"math"
	"slices"
	"strings"
	"testing"

	"parley/api"
	rooms "parley/room"
)

const top = math.MaxUint64

// drawn is a row of numbers that looks drawn, and is the same each time.
type drawn uint64

func (d *drawn) next() uint64 {
	*d = *d*6364136223846793005 + 1442695040888963407
	return uint64(*d >> 33)
}

// below is a number from 0 to n - 1.
func (d *drawn) below(n int) int { return int(d.next() % uint64(n)) }

// access is a call of a tx.
type access struct {
	put        bool
	addr, word uint64
}

// words is cells by their addresses: those that are not there are 0.
type words map[uint64]uint64

func (w words) set(addr, word uint64) {
	delete(w, addr)
	if word != 0 {
		w[addr] = word
	}
}

// behind is the cells when these accesses were made.
func (w words) behind(trace []access) words {
	out := words{}
	for addr, word := range w {
		out.set(addr, word)
	}
	for _, a := range trace {
		if a.put {
			out.set(a.addr, a.word)
		}
	}
	return out
}

// book is a tx over cells of all addresses. It writes down how it is called, and says no, with an error and a word that means nothing, at one of its calls (-1: at none).
type book struct {
	words words
	trace []access
	no    int
	err   api.Errno
}

func open(w words) *book { return &book{words: w.behind(nil), no: -1} }

// note writes an access down, and tells whether it is the one that is refused.
func (b *book) note(a access) bool {
	b.trace = append(b.trace, a)
	return len(b.trace)-1 == b.no
}

func (b *book) Get(addr uint64) (uint64, api.Errno) {
	if b.note(access{addr: addr}) {
		return 77, b.err
	}
	return b.words[addr], api.OK
}

func (b *book) Put(addr, word uint64) api.Errno {
	if b.note(access{put: true, addr: addr, word: word}) {
		return b.err
	}
	b.words.set(addr, word)
	return api.OK
}

// puts is how many of the accesses were puts.
func (b *book) puts() int {
	n := 0
	for _, a := range b.trace {
		if a.put {
			n++
		}
	}
	return n
}

// answer is what any of the calls answers.
type answer struct {
	word uint64
	has  bool
	list string
	err  api.Errno
}

// call is one of the calls with all of its arguments but the tx.
type call func(api.Tx) answer

func lay(room uint64) call {
	return func(tx api.Tx) answer {
		word, err := New(tx, room)
		return answer{word: word, err: err}
	}
}

func putIn(room, q, word uint64) call {
	return func(tx api.Tx) answer { return answer{err: Put(tx, room, q, word)} }
}

func takeOut(room, q uint64) call {
	return func(tx api.Tx) answer {
		word, has, err := Take(tx, room, q)
		return answer{word: word, has: has, err: err}
	}
}

func first(q uint64) call {
	return func(tx api.Tx) answer {
		word, has, err := First(tx, q)
		return answer{word: word, has: has, err: err}
	}
}

func length(q uint64) call {
	return func(tx api.Tx) answer {
		word, err := Len(tx, q)
		return answer{word: word, err: err}
	}
}

func all(q uint64) call {
	return func(tx api.Tx) answer {
		list, err := Words(tx, q)
		return answer{list: text(list), err: err}
	}
}

func drop(room, q uint64) call {
	return func(tx api.Tx) answer { return answer{err: Drop(tx, room, q)} }
}

// text is numbers with blanks between.
func text(list []uint64) string { return strings.Trim(fmt.Sprint(list), "[]") }

// nothing is what a call answers that has nothing to tell, and is not refused.
var nothing = answer{}

// tells is an answer of one word that is there.
func tells(word uint64) answer { return answer{word: word, has: true} }

// noes is what a tx may answer but OK: errors that the calls themselves answer, too, and numbers that nobody owns.
var noes = []api.Errno{api.ErrStale, api.ErrRange, api.ErrFull, api.ErrNil, api.ErrRoom, api.ErrQueue, 12345, -1}

// asks asks a call over these cells for its answer; then the same of a tx that says no at each of its accesses: that error comes at once. What the cells are behind the call is answered.
func asks(t *testing.T, w words, c call, want answer) words {
	t.Helper()
	b := open(w)
	if got := c(b); got != want {
		t.Fatalf("answers %v, not %v", got, want)
	}
	if len(b.trace) == 0 {
		t.Errorf("asks the tx nothing")
	}
	if (want.err == api.ErrRoom || want.err == api.ErrQueue) && b.puts() > 0 {
		t.Errorf("is refused for %v, and has put: %v", want.err, b.trace)
	}
	for no := range b.trace {
		for _, err := range noes {
			refused(t, w, c, no, err, b.trace)
		}
	}
	return b.words
}

// looks asks a call that only looks: it puts nothing.
func looks(t *testing.T, w words, c call, want answer) {
	t.Helper()
	asks(t, w, c, want)
	b := open(w)
	if c(b); b.puts() > 0 {
		t.Errorf("who only looks has put: %v", b.trace)
	}
}

// refused asks what a call does, if the tx says no at one of its accesses.
func refused(t *testing.T, w words, c call, no int, err api.Errno, trace []access) {
	t.Helper()
	b := open(w)
	b.no, b.err = no, err
	if got := c(b); got != (answer{err: err}) {
		t.Errorf("the access %d is refused for %v: answers %v", no, err, got)
	}
	if !slices.Equal(b.trace, trace[:no+1]) {
		t.Errorf("the access %d is refused: goes by %v, not by %v", no, b.trace, trace[:no+1])
	}
	if has := w.behind(trace[:no]); !maps.Equal(b.words, has) {
		t.Errorf("the access %d is refused: the cells are %v, not %v", no, b.words, has)
	}
}

// place is where a room's header lies, and from where on up to below where its cells are.
type place struct{ room, from, to uint64 }

// places is rooms whose header, queues or nodes lie at the edges of words, too; some go round.
var places = []place{
	{0, 20, 60},
	{500, 3, 41},
	{1 << 40, 0, 40},
	{0, top - 39, top},
	{top - 17, 0, 40},
	{top, 17, 60},
	{7, 1<<63 - 20, 1<<63 + 20},
}

// laid is the cells of a room, in which all that is left has words that nobody laid there.
func laid(p place) words {
	w := words{}
	for addr := p.from; addr != p.to; addr++ {
		w[addr] = 9000 + addr - p.from
	}
	b := open(w)
	rooms.Lay(b, p.room, p.from, p.to)
	return b.words
}

// nodeAt is where the node of a number lies in a queue that is built here.
func nodeAt(q uint64, n int) uint64 { return q + 3 + 2*uint64(n) }

// built is the cells of a room with a queue of these words, the node of each behind that of the one ahead, and where it lies: it is laid here, not by the calls that are asked.
func built(p place, had ...uint64) (words, uint64) {
	w := laid(p)
	q := p.from
	w.set(p.room, nodeAt(q, len(had)))
	link, last := q, uint64(0)
	for n, word := range had {
		node := nodeAt(q, n)
		w.set(link, node+1)
		w.set(node, word)
		link, last = node+1, node+1
	}
	w.set(link, 0)
	w.set(q+1, last)
	w.set(q+2, uint64(len(had)))
	return w, q
}

// nodes is the nodes of a queue as they lie in the cells.
func (w words) nodes(t *testing.T, q uint64) []uint64 {
	t.Helper()
	var nodes []uint64
	last := uint64(0)
	for next := w[q]; next != 0; next = w[next] {
		nodes, last = append(nodes, next-1), next
		if len(nodes) > 1000 {
			t.Fatal("the nodes go round")
		}
	}
	if n := uint64(len(nodes)); n != w[q+2] {
		t.Errorf("the count is %d, and there are %d nodes", w[q+2], n)
	}
	if last != w[q+1] {
		t.Errorf("the second cell has %d, not the last node's %d", w[q+1], last)
	}
	return nodes
}

// is asks for a queue's words as they lie in the cells.
func is(t *testing.T, w words, q uint64, want ...uint64) {
	t.Helper()
	var got []uint64
	for _, node := range w.nodes(t, q) {
		got = append(got, w[node])
	}
	if !slices.Equal(got, want) {
		t.Errorf("the words are %v, not %v", got, want)
	}
}

// holds asks a room for how many cells were never taken, and for the pieces of a node's size that were given back, the last one first.
func holds(t *testing.T, w words, room, left uint64, given ...uint64) {
	t.Helper()
	if got, err := rooms.Left(open(w), room); got != left || err != api.OK {
		t.Errorf("the room has %d left, %v, not %d", got, err, left)
	}
	gave(t, w, room, 2, given...)
}

// gave asks a room for the pieces of a size that were given back, the last one first.
func gave(t *testing.T, w words, room, size uint64, given ...uint64) {
	t.Helper()
	if got, err := rooms.Given(open(w), room, size); !slices.Equal(got, given) || err != api.OK {
		t.Errorf("given back were %v, %v, not %v", got, err, given)
	}
}
