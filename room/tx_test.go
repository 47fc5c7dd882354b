package room

import (
	"fmt"
	"maps"
	"math"
	"slices"
	"strings"
	"testing"

	"parley/api"
)

const top = math.MaxUint64

// drawn is a row of numbers that looks drawn, and is the same each time.
type drawn uint64

func (d *drawn) next() uint64 {
	*d = *d*6364136223846793005 + 1442695040888963407
	return uint64(*d >> 33)
}

// below is a number from 0 to n - 1.
func (d *drawn) below(n int) int { return int(d.next() % uint64(n)) }

// access is a call of a tx.
type access struct {
	put        bool
	addr, word uint64
}

func get(addr uint64) access { return access{addr: addr} }

func put(addr, word uint64) access { return access{put: true, addr: addr, word: word} }

// words is cells by their addresses: those that are not there are 0.
type words map[uint64]uint64

func (w words) set(addr, word uint64) {
	delete(w, addr)
	if word != 0 {
		w[addr] = word
	}
}

// behind is the cells when these accesses were made.
func (w words) behind(trace []access) words {
	out := words{}
	for addr, word := range w {
		out.set(addr, word)
	}
	for _, a := range trace {
		if a.put {
			out.set(a.addr, a.word)
		}
	}
	return out
}

// book is a tx over cells of all addresses. It writes down how it is called, and says no, with an error and a word that means nothing, at one of its calls (-1: at none).
type book struct {
	words words
	trace []access
	no    int
	err   api.Errno
}

func open(w words) *book { return &book{words: w.behind(nil), no: -1} }

// note writes an access down, and tells whether it is the one that is refused.
func (b *book) note(a access) bool {
	b.trace = append(b.trace, a)
	return len(b.trace)-1 == b.no
}

func (b *book) Get(addr uint64) (uint64, api.Errno) {
	if b.note(get(addr)) {
		return 77, b.err
	}
	return b.words[addr], api.OK
}

func (b *book) Put(addr, word uint64) api.Errno {
	if b.note(put(addr, word)) {
		return b.err
	}
	b.words.set(addr, word)
	return api.OK
}

// answer is what any of the calls answers.
type answer struct {
	word uint64
	list string
	err  api.Errno
}

// call is one of the calls with all of its arguments but the tx.
type call func(api.Tx) answer

func lay(at, from, to uint64) call {
	return func(tx api.Tx) answer { return answer{err: Lay(tx, at, from, to)} }
}

func take(at, size uint64) call {
	return func(tx api.Tx) answer {
		word, err := Take(tx, at, size)
		return answer{word: word, err: err}
	}
}

func give(at, addr, size uint64) call {
	return func(tx api.Tx) answer { return answer{err: Give(tx, at, addr, size)} }
}

func left(at uint64) call {
	return func(tx api.Tx) answer {
		word, err := Left(tx, at)
		return answer{word: word, err: err}
	}
}

func given(at, size uint64) call {
	return func(tx api.Tx) answer {
		list, err := Given(tx, at, size)
		return answer{list: text(list), err: err}
	}
}

// text is numbers with blanks between.
func text(list []uint64) string { return strings.Trim(fmt.Sprint(list), "[]") }

// fine is an answer of one word, and of none.
func fine(word ...uint64) answer { return answer{word: append(word, 0)[0]} }

// noes is what a tx may answer but OK: errors that the calls themselves answer, too, and numbers that nobody owns.
var noes = []api.Errno{api.ErrStale, api.ErrRange, api.ErrFull, api.ErrNil, api.ErrArg, api.ErrRoom, api.ErrStopped, 12345, -1}

// goes asks a call over these cells for its answer, for each access in its order, and for the cells behind it; then the same of a tx that says no at each of them.
func goes(t *testing.T, w words, c call, want answer, trace ...access) {
	t.Helper()
	b := open(w)
	if got := c(b); got != want {
		t.Errorf("answers %v, not %v", got, want)
	}
	if !slices.Equal(b.trace, trace) {
		t.Fatalf("goes by %v, not by %v", b.trace, trace)
	}
	if has := w.behind(trace); !maps.Equal(b.words, has) {
		t.Errorf("the cells are %v, not %v", b.words, has)
	}
	for no := range trace {
		for _, err := range noes {
			refused(t, w, c, no, err, trace)
		}
	}
}

// refused asks what a call does, if the tx says no at one of its accesses.
func refused(t *testing.T, w words, c call, no int, err api.Errno, trace []access) {
	t.Helper()
	b := open(w)
	b.no, b.err = no, err
	if got := c(b); got != (answer{err: err}) {
		t.Errorf("the access %d is refused for %v: answers %v", no, err, got)
	}
	if !slices.Equal(b.trace, trace[:no+1]) {
		t.Errorf("the access %d is refused: goes by %v, not by %v", no, b.trace, trace[:no+1])
	}
	if has := w.behind(trace[:no]); !maps.Equal(b.words, has) {
		t.Errorf("the access %d is refused: the cells are %v, not %v", no, b.words, has)
	}
}

// errs asks for an error that comes without an access.
func errs(t *testing.T, c call, err api.Errno) {
	t.Helper()
	goes(t, words{0: 20, 1: 30, 2: 24, 17: 28}, c, answer{err: err})
}

// wrongSizes is sizes that no piece has; of some the lower bits are a size that one has.
var wrongSizes = []uint64{0, Most + 1, Most + 2, 32, 255, 256, 257, 1 << 16, 1<<16 + 4, 1 << 32, 1<<32 + 4, 1 << 63, 1<<63 + 4, top - 3, top - 1, top}
