package part

import (
	"fmt"
	"maps"
	"math"
	"slices"
	"strings"
	"testing"

	"parley/api"
	"parley/list"
	"parley/queue"
	rooms "parley/room"
)

const top = math.MaxUint64

// drawn is a row of numbers that looks drawn, and is the same each time.
type drawn uint64

func (d *drawn) next() uint64 {
	*d = *d*6364136223846793005 + 1442695040888963407
	return uint64(*d >> 33)
}

// below is a number from 0 to n - 1.
func (d *drawn) below(n int) int { return int(d.next() % uint64(n)) }

// access is a call of a tx.
type access struct {
	put        bool
	addr, word uint64
}

func get(addr uint64) access { return access{addr: addr} }

func sets(addr, word uint64) access { return access{put: true, addr: addr, word: word} }

// words is cells by their addresses: those that are not there are 0.
type words map[uint64]uint64

func (w words) set(addr, word uint64) {
	delete(w, addr)
	if word != 0 {
		w[addr] = word
	}
}

// with is the cells when some of them have these words.
func (w words) with(some words) words {
	out := w.behind(nil)
	for addr, word := range some {
		out.set(addr, word)
	}
	return out
}

// behind is the cells when these accesses were made.
func (w words) behind(trace []access) words {
	out := words{}
	for addr, word := range w {
		out.set(addr, word)
	}
	for _, a := range trace {
		if a.put {
			out.set(a.addr, a.word)
		}
	}
	return out
}

// book is a tx over cells of all addresses. It writes down how it is called, and says no, with an error and a word that means nothing, at one of its calls (-1: at none). Its methods are an owner's load and store, too.
type book struct {
	words words
	trace []access
	no    int
	err   api.Errno
}

func open(w words) *book { return &book{words: w.behind(nil), no: -1} }

// note writes an access down, and tells whether it is the one that is refused.
func (b *book) note(a access) bool {
	b.trace = append(b.trace, a)
	return len(b.trace)-1 == b.no
}

func (b *book) Get(addr uint64) (uint64, api.Errno) {
	if b.note(get(addr)) {
		return 77, b.err
	}
	return b.words[addr], api.OK
}

func (b *book) Put(addr, word uint64) api.Errno {
	if b.note(sets(addr, word)) {
		return b.err
	}
	b.words.set(addr, word)
	return api.OK
}

// puts is how many of the accesses were puts.
func (b *book) puts() int {
	n := 0
	for _, a := range b.trace {
		if a.put {
			n++
		}
	}
	return n
}

// answer is what any of the calls answers.
type answer struct {
	part api.Part
	list string
	err  api.Errno
}

// nothing is what a call answers that has nothing to tell, and is not refused.
var nothing = answer{}

// wrong is the answer of a call that is refused.
func wrong(err api.Errno) answer { return answer{err: err} }

// call is one of the calls with all of its arguments but the tx, which is load and store of those that need none.
type call func(api.Tx) answer

func takesQueue(q uint64) call {
	return func(tx api.Tx) answer {
		p, err := Queue(tx, q)
		return answer{part: p, err: err}
	}
}

func takesList(l uint64) call {
	return func(tx api.Tx) answer {
		p, err := List(tx, l)
		return answer{part: p, err: err}
	}
}

func reads(p api.Part) call {
	return func(tx api.Tx) answer {
		list, err := Read(p, tx.Get)
		return answer{list: text(list), err: err}
	}
}

func turns(p api.Part, f func(uint64) uint64) call {
	return func(tx api.Tx) answer { return answer{err: Turn(p, tx.Get, tx.Put, f)} }
}

func gives(room uint64, p api.Part) call {
	return func(tx api.Tx) answer { return answer{err: Give(tx, room, p)} }
}

func lays(q uint64, p api.Part) call {
	return func(tx api.Tx) answer { return answer{err: Back(tx, q, p)} }
}

// text is numbers with blanks between.
func text(list []uint64) string { return strings.Trim(fmt.Sprint(list), "[]") }

func twice(word uint64) uint64 { return 2 * word }

func flips(word uint64) uint64 { return ^word }

// noes is what a tx may answer but OK: errors that the calls themselves answer, too, and numbers that nobody owns.
var noes = []api.Errno{api.ErrStale, api.ErrRange, api.ErrFull, api.ErrNil, api.ErrArg, api.ErrPart, api.ErrQueue, 12345, -1}

// asks asks a call over these cells for its answer; then the same of a tx that says no at each of its accesses: that error comes at once, and what was put by then is put. The accesses are answered.
func asks(t *testing.T, w words, c call, want answer) []access {
	t.Helper()
	b := open(w)
	if got := c(b); got != want {
		t.Fatalf("answers %v, not %v", got, want)
	}
	for no := range b.trace {
		for _, err := range noes {
			refused(t, w, c, no, err, b.trace)
		}
	}
	return b.trace
}

// goes asks a call for its answer and for each of its accesses, in their order.
func goes(t *testing.T, w words, c call, want answer, trace ...access) {
	t.Helper()
	if got := asks(t, w, c, want); !slices.Equal(got, trace) {
		t.Errorf("goes by %v, not by %v", got, trace)
	}
}

// refused asks what a call does, if the tx says no at one of its accesses.
func refused(t *testing.T, w words, c call, no int, err api.Errno, trace []access) {
	t.Helper()
	b := open(w)
	b.no, b.err = no, err
	if got := c(b); got != wrong(err) {
		t.Errorf("the access %d is refused for %v: answers %v", no, err, got)
	}
	if !slices.Equal(b.trace, trace[:no+1]) {
		t.Errorf("the access %d is refused: goes by %v, not by %v", no, b.trace, trace[:no+1])
	}
	if has := w.behind(trace[:no]); !maps.Equal(b.words, has) {
		t.Errorf("the access %d is refused: the cells are %v, not %v", no, b.words, has)
	}
}

// kinds is both kinds of parts.
var kinds = []api.PartKind{api.PartQueue, api.PartList}

// rows is words of a part: none, one, many.
var rows = [][]uint64{{}, {5}, {5, 6, 7}, {0}, {0, 0, 0}, {top, 0, 1 << 63}, {7, 7, 9, 9, 7, 1, top, 4}}

// at is where the nodes of a part lie: not one behind the other, at both edges of words, and in no order.
var at = [][]uint64{
	{30, 20, 40, 22, 60, 35, 50, 24},
	{0, 2, 4, 6, 8, 10, 12, 14},
	{top - 1, 0, 1 << 63, top - 3, 2, 1<<63 + 2, top - 9, 1<<63 - 2},
	{1 << 40, top - 5, top - 1, 77, 79, 81, 1, 3},
}

// chained is cells with a part of these words in its nodes, as it lies there, and the part.
func chained(kind api.PartKind, nodes, had []uint64) (words, api.Part) {
	w := words{}
	p := api.Part{Kind: kind, Count: uint64(len(had))}
	for n, word := range had {
		w.set(nodes[n], word)
		if n == 0 {
			p.First = nodes[0] + 1
		} else {
			w.set(nodes[n-1]+1, nodes[n]+1)
		}
	}
	return w, p
}

// eachPart goes through parts of both kinds, of none, one and many words, at all places.
func eachPart(t *testing.T, does func(t *testing.T, w words, p api.Part, nodes, had []uint64)) {
	for _, kind := range kinds {
		for n, nodes := range at {
			for _, had := range rows {
				w, p := chained(kind, nodes, had)
				t.Run(fmt.Sprint(kind, " ", n, " ", had), func(t *testing.T) { does(t, w, p, nodes[:len(had)], had) })
			}
		}
	}
}

// hung is the cells with the header of a queue or a list at a place, on which a part hangs.
func hung(w words, p api.Part, header uint64, nodes []uint64) words {
	if p.Kind == api.PartList {
		return w.with(words{header: p.Count, header + 1: p.First})
	}
	last := uint64(0)
	if len(nodes) > 0 {
		last = nodes[len(nodes)-1] + 1
	}
	return w.with(words{header: p.First, header + 1: last, header + 2: p.Count})
}

// holds asks a queue for its words by its own calls, and the cells for the same.
func holds(t *testing.T, w words, q uint64, want ...uint64) {
	t.Helper()
	if got, err := queue.Words(open(w), q); text(got) != text(want) || err != api.OK {
		t.Errorf("the queue has %v, %v, not %v", got, err, want)
	}
	if n, err := queue.Len(open(w), q); n != uint64(len(want)) || err != api.OK {
		t.Errorf("the queue's Len is %d, %v, not %d", n, err, len(want))
	}
	if len(want) == 0 && w[q]|w[q+1]|w[q+2] != 0 {
		t.Errorf("the queue's cells are %d %d %d", w[q], w[q+1], w[q+2])
	}
}

// lists asks a list for its keys by its own calls.
func lists(t *testing.T, w words, l uint64, want ...uint64) {
	t.Helper()
	if got, err := list.Keys(open(w), l); text(got) != text(want) || err != api.OK {
		t.Errorf("the list has %v, %v, not %v", got, err, want)
	}
	if n, err := list.Len(open(w), l); n != uint64(len(want)) || err != api.OK {
		t.Errorf("the list's Len is %d, %v, not %d", n, err, len(want))
	}
}

// gave asks a room for the pieces of two cells that were given back, the last one first.
func gave(t *testing.T, w words, room uint64, given ...uint64) {
	t.Helper()
	if got, err := rooms.Given(open(w), room, 2); text(got) != text(given) || err != api.OK {
		t.Errorf("given back were %v, %v, not %v", got, err, given)
	}
}
