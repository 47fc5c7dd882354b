package skip

import (
	"fmt"
	"maps"
	"math"
	"slices"
	"strings"
	"testing"

	"parley/api"
)

const top = math.MaxUint64

// drawn is a row of numbers that looks drawn, and is the same each time.
type drawn uint64

func (d *drawn) next() uint64 {
	*d = *d*6364136223846793005 + 1442695040888963407
	return uint64(*d >> 33)
}

// below is a number from 0 to n - 1.
func (d *drawn) below(n int) int { return int(d.next() % uint64(n)) }

// access is a call of a tx.
type access struct {
	put        bool
	addr, word uint64
}

func get(addr uint64) access { return access{addr: addr} }

func put(addr, word uint64) access { return access{put: true, addr: addr, word: word} }

// words is cells by their addresses: those that are not there are 0.
type words map[uint64]uint64

func (w words) set(addr, word uint64) {
	delete(w, addr)
	if word != 0 {
		w[addr] = word
	}
}

// lay sets cells one behind the other.
func (w words) lay(addr uint64, row ...uint64) {
	for _, word := range row {
		w.set(addr, word)
		addr++
	}
}

// book is a tx over cells of all addresses, which stay as they are: what is put lies over them. It writes down how it is called, and says no, with an error and a word that means nothing, at one of its calls (-1: at none).
type book struct {
	under, over map[uint64]uint64
	trace       []access
	no          int
	err         api.Errno
}

func open(w words) *book { return &book{under: w, over: map[uint64]uint64{}, no: -1} }

// words is the cells as they are now.
func (b *book) words() words {
	out := words{}
	for addr, word := range b.under {
		out.set(addr, word)
	}
	for addr, word := range b.over {
		out.set(addr, word)
	}
	return out
}

// note writes an access down, and tells whether it is the one that is refused.
func (b *book) note(a access) bool {
	if len(b.trace) > 3*api.MaxCells {
		panic("a call has no end")
	}
	b.trace = append(b.trace, a)
	return len(b.trace)-1 == b.no
}

func (b *book) Get(addr uint64) (uint64, api.Errno) {
	if b.note(get(addr)) {
		return 77, b.err
	}
	if word, ok := b.over[addr]; ok {
		return word, api.OK
	}
	return b.under[addr], api.OK
}

func (b *book) Put(addr, word uint64) api.Errno {
	if b.note(put(addr, word)) {
		return b.err
	}
	b.over[addr] = word
	return api.OK
}

// puts is how many of these accesses are puts.
func puts(trace []access) int {
	n := 0
	for _, a := range trace {
		if a.put {
			n++
		}
	}
	return n
}

// answer is what any of the calls answers.
type answer struct {
	word uint64
	has  bool
	list string
	err  api.Errno
}

// call is one of the calls with all of its arguments but the tx.
type call func(api.Tx) answer

func lay(at uint64) call {
	return func(tx api.Tx) answer { return answer{err: Lay(tx, at)} }
}

func fresh(room uint64) call {
	return func(tx api.Tx) answer {
		word, err := New(tx, room)
		return answer{word: word, err: err}
	}
}

func insert(room, at, x uint64, level int) call {
	return func(tx api.Tx) answer {
		has, err := Insert(tx, room, at, x, level)
		return answer{has: has, err: err}
	}
}

func remove(room, at, x uint64) call {
	return func(tx api.Tx) answer {
		has, err := Remove(tx, room, at, x)
		return answer{has: has, err: err}
	}
}

func has(at, x uint64) call {
	return func(tx api.Tx) answer {
		has, err := Has(tx, at, x)
		return answer{has: has, err: err}
	}
}

func first(at uint64) call {
	return func(tx api.Tx) answer {
		word, has, err := First(tx, at)
		return answer{word: word, has: has, err: err}
	}
}

func after(at, x uint64) call {
	return func(tx api.Tx) answer {
		word, has, err := After(tx, at, x)
		return answer{word: word, has: has, err: err}
	}
}

func keys(at uint64) call {
	return func(tx api.Tx) answer {
		list, err := Keys(tx, at)
		return answer{list: text(list), err: err}
	}
}

func length(at uint64) call {
	return func(tx api.Tx) answer {
		count, err := Len(tx, at)
		return answer{word: uint64(count), err: err}
	}
}

// text is numbers with blanks between.
func text(list []uint64) string { return strings.Trim(fmt.Sprint(list), "[]") }

var (
	yes, no  = answer{has: true}, answer{}
	noRoom   = answer{err: api.ErrRoom}
	badShape = answer{err: api.ErrShape}
)

// tells is an answer of one word that is there.
func tells(word uint64) answer { return answer{word: word, has: true} }

// noes is what a tx may answer but OK: errors that the calls themselves answer, too, and numbers that nobody owns.
var noes = []api.Errno{api.ErrStale, api.ErrRange, api.ErrFull, api.ErrNil, api.ErrRoom, api.ErrShape, 12345, -1}

// asks asks a call over these cells for its answer, and for each get and put, in its order; then the same of a tx that says no at each of its accesses: that error comes at once, and what was put by then is put. What the cells are behind the call is answered.
func asks(t *testing.T, w words, c call, want answer, trace []access) words {
	t.Helper()
	b := open(w)
	if got := c(b); got != want {
		t.Fatalf("answers %v, not %v", got, want)
	}
	if !slices.Equal(b.trace, trace) {
		t.Fatalf("goes by %v, not by %v", b.trace, trace)
	}
	for no := range trace {
		for _, err := range noes {
			refused(t, w, c, no, err, trace)
		}
	}
	return b.words()
}

// refused asks what a call does, if the tx says no at one of its accesses.
func refused(t *testing.T, w words, c call, no int, err api.Errno, trace []access) {
	t.Helper()
	b := open(w)
	b.no, b.err = no, err
	if got := c(b); got != (answer{err: err}) {
		t.Errorf("the access %d is refused for %v: answers %v", no, err, got)
	}
	if !slices.Equal(b.trace, trace[:no+1]) {
		t.Errorf("the access %d is refused: goes by %v, not by %v", no, b.trace, trace[:no+1])
	}
	over := map[uint64]uint64{}
	for _, a := range trace[:no] {
		if a.put {
			over[a.addr] = a.word
		}
	}
	if !maps.Equal(b.over, over) {
		t.Errorf("the access %d is refused: %v is put, not %v", no, b.over, over)
	}
}
