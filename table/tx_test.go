package table

import (
	"fmt"
	"maps"
	"math"
	"slices"
	"strconv"
	"testing"

	"parley/api"
	rooms "parley/room"
)

const (
	top = math.MaxUint64
	mul = 11400714819323198485
)

// drawn is a row of numbers that looks drawn, and is the same each time.
type drawn uint64

func (d *drawn) next() uint64 {
	*d = *d*6364136223846793005 + 1442695040888963407
	return uint64(*d >> 33)
}

// below is a number from 0 to n - 1.
func (d *drawn) below(n int) int { return int(d.next() % uint64(n)) }

// word is any word.
func (d *drawn) word() uint64 { return d.next()<<33 ^ d.next() }

// back is what mul is turned back by.
func back() uint64 {
	x := uint64(1)
	for range 6 {
		x *= 2 - mul*x
	}
	return x
}

// keyOf is the key whose digits begin as these, told to the base 16, and are 0 behind them.
func keyOf(digits string) uint64 {
	hash, err := strconv.ParseUint((digits + "0000000000000000")[:16], 16, 64)
	if err != nil {
		panic(err)
	}
	return hash * back()
}

// digitsOf is a key's digits, told to the base 16.
func digitsOf(key uint64) string { return fmt.Sprintf("%016x", key*mul) }

// digitOf is one of a key's digits.
func digitOf(key uint64, d int) uint64 {
	n, err := strconv.ParseUint(digitsOf(key)[d:d+1], 16, 64)
	if err != nil {
		panic(err)
	}
	return n
}

// access is a call of a tx.
type access struct {
	put        bool
	addr, word uint64
}

func (a access) String() string {
	if a.put {
		return fmt.Sprint("put ", a.addr, " ", a.word)
	}
	return fmt.Sprint("get ", a.addr)
}

func get(addr uint64) access { return access{addr: addr} }

func put(addr, word uint64) access { return access{put: true, addr: addr, word: word} }

// row is accesses one behind the other.
func row(parts ...[]access) []access { return slices.Concat(parts...) }

// one is accesses as they are listed.
func one(list ...access) []access { return list }

// zeros is the sixteen puts by which a node is laid.
func zeros(at uint64) []access {
	var list []access
	for n := range uint64(16) {
		list = append(list, put(at+n, 0))
	}
	return list
}

// fresh is how room takes a piece that was never taken.
func fresh(room, size, piece uint64) []access {
	return one(get(room+1+size), get(room), get(room+1), put(room, piece+size))
}

// again is how room takes a piece that was given back, ahead of another one, whose address plus 1 is next.
func again(room, size, piece, next uint64) []access {
	return one(get(room+1+size), get(piece), put(room+1+size, next))
}

// noRoom is how room refuses.
func noRoom(room, size uint64) []access { return one(get(room+1+size), get(room), get(room+1)) }

// gives is how room is given a piece back, ahead of another one.
func gives(room, size, piece, next uint64) []access {
	return one(get(room+1+size), put(piece, next), put(room+1+size, piece+1))
}

// words is cells by their addresses: those that are not there are 0.
type words map[uint64]uint64

func (w words) set(addr, word uint64) {
	delete(w, addr)
	if word != 0 {
		w[addr] = word
	}
}

// book is a tx over cells of all addresses. It writes down how it is called, and says no, with an error and a word that means nothing, at one of its calls (-1: at none), and from some number of calls on (0: never), so that a call without end comes to one.
type book struct {
	words words
	trace []access
	no    int
	err   api.Errno
	most  int
}

func open(w words) *book { return &book{words: maps.Clone(w), no: -1} }

// note writes an access down, and tells how it is refused.
func (b *book) note(a access) api.Errno {
	b.trace = append(b.trace, a)
	switch {
	case len(b.trace)-1 == b.no:
		return b.err
	case b.most > 0 && len(b.trace) > b.most:
		return api.ErrFuel
	}
	return api.OK
}

func (b *book) Get(addr uint64) (uint64, api.Errno) {
	if err := b.note(get(addr)); err != api.OK {
		return 77, err
	}
	return b.words[addr], api.OK
}

func (b *book) Put(addr, word uint64) api.Errno {
	if err := b.note(put(addr, word)); err != api.OK {
		return err
	}
	b.words.set(addr, word)
	return api.OK
}

// puts is how many of the accesses were puts.
func (b *book) puts() int {
	n := 0
	for _, a := range b.trace {
		if a.put {
			n++
		}
	}
	return n
}

// answer is what any of the calls answers.
type answer struct {
	word uint64
	has  bool
	list string
	err  api.Errno
}

// call is one of the calls with all of its arguments but the tx.
type call func(api.Tx) answer

func lay(at uint64) call {
	return func(tx api.Tx) answer { return answer{err: Lay(tx, at)} }
}

func lays(room uint64) call {
	return func(tx api.Tx) answer {
		word, err := New(tx, room)
		return answer{word: word, err: err}
	}
}

func puts(room, at, key, value uint64) call {
	return func(tx api.Tx) answer {
		word, has, err := Put(tx, room, at, key, value)
		return answer{word: word, has: has, err: err}
	}
}

func gets(at, key uint64) call {
	return func(tx api.Tx) answer {
		word, has, err := Get(tx, at, key)
		return answer{word: word, has: has, err: err}
	}
}

func deletes(room, at, key uint64) call {
	return func(tx api.Tx) answer {
		word, has, err := Delete(tx, room, at, key)
		return answer{word: word, has: has, err: err}
	}
}

func adds(room, at, key, value uint64) call {
	return func(tx api.Tx) answer {
		word, err := Add(tx, room, at, key, value)
		return answer{word: word, err: err}
	}
}

func allOf(at uint64) call {
	return func(tx api.Tx) answer {
		list, err := All(tx, at)
		return answer{list: text(list), err: err}
	}
}

func keysOf(at uint64) call {
	return func(tx api.Tx) answer {
		list, err := Keys(tx, at)
		return answer{list: text(list), err: err}
	}
}

func length(at uint64) call {
	return func(tx api.Tx) answer {
		n, err := Len(tx, at)
		return answer{word: uint64(n), err: err}
	}
}

func depth(at, key uint64) call {
	return func(tx api.Tx) answer {
		n, err := Depth(tx, at, key)
		return answer{word: uint64(n), err: err}
	}
}

// text is what a list has; that of a list without anything is no text.
func text[T any](list []T) string {
	if len(list) == 0 {
		return ""
	}
	return fmt.Sprint(list)
}

// none is what a call answers that has nothing to tell, and is not refused.
var none = answer{}

// is is an answer of a word that is there.
func is(word uint64) answer { return answer{word: word, has: true} }

// no is an error's answer.
func no(err api.Errno) answer { return answer{err: err} }

// noes is what a tx may answer but OK: errors that the calls themselves answer, too, and numbers that nobody owns.
var noes = []api.Errno{api.ErrStale, api.ErrNil, api.ErrRoom, api.ErrDeep, api.ErrArg, api.ErrRange, 12345, -1}

// asks asks a call over these cells for its answer, and for each get and each put in its order; then the same of a tx that says no at each of its accesses (of very many, at some): that error comes at once. What the cells are behind the call is answered.
func asks(t *testing.T, w words, c call, want answer, trace ...[]access) words {
	t.Helper()
	b := open(w)
	b.most = 1 << 20
	if got := c(b); got != want {
		t.Fatalf("answers %v, not %v", got, want)
	}
	goes := row(trace...)
	if !slices.Equal(b.trace, goes) {
		t.Fatalf("goes by\n%v, not by\n%v", b.trace, goes)
	}
	step := 1
	if len(goes) > 64 {
		// A node is laid by 21 accesses: each kind of them comes.
		step = 11
	}
	for n := 0; n < len(goes); n += step {
		refused(t, w, c, n, noes[n%len(noes)], goes)
	}
	return b.words
}

// refused asks what a call does, if the tx says no at one of its accesses.
func refused(t *testing.T, w words, c call, at int, err api.Errno, trace []access) {
	t.Helper()
	s := &slip{has: w, over: map[uint64]uint64{}, left: at, err: err}
	if got := c(s); got != no(err) {
		t.Errorf("the access %d is refused for %v: answers %v", at, err, got)
	}
	if !slices.Equal(s.trace, trace[:at+1]) {
		t.Errorf("the access %d is refused: goes by %v, not by %v", at, s.trace, trace[:at+1])
	}
	over := map[uint64]uint64{}
	for _, a := range trace[:at] {
		if a.put {
			over[a.addr] = a.word
		}
	}
	if !maps.Equal(s.over, over) {
		t.Errorf("the access %d is refused: was put %v, not %v", at, s.over, over)
	}
}

// slip is a tx over cells that stay as they are: what is put is kept beside them. When none of its accesses are left, the next one is refused, and those behind it are done.
type slip struct {
	has   words
	over  map[uint64]uint64
	trace []access
	left  int
	err   api.Errno
}

// note writes an access down, and tells how it is refused.
func (s *slip) note(a access) api.Errno {
	s.trace = append(s.trace, a)
	if s.left--; s.left == -1 {
		return s.err
	}
	return api.OK
}

func (s *slip) Get(addr uint64) (uint64, api.Errno) {
	if err := s.note(get(addr)); err != api.OK {
		return 77, err
	}
	if word, ok := s.over[addr]; ok {
		return word, api.OK
	}
	return s.has[addr], api.OK
}

func (s *slip) Put(addr, word uint64) api.Errno {
	if err := s.note(put(addr, word)); err != api.OK {
		return err
	}
	s.over[addr] = word
	return api.OK
}

// place is where a map's header lies, where a room's header lies, and from where on up to below where its cells are.
type place struct{ at, room, from, to uint64 }

// places is maps and rooms at the edges of words, too; some go round. (Slots tell leaves up to 2^63 - 1, and nodes up to 2^63 - 2, from one another.)
var places = []place{
	{20, 0, 40, 800},
	{900, 950, 3, 763},
	{top - 15, top - 40, 0, 760},
	{top - 7, top - 30, 9, 769},
	{top, top - 18, 16, 776},
	{1<<63 - 8, 5, 100, 860},
	{40, 7, 1<<63 - 761, 1<<63 - 1},
	{0, 1<<63 + 20, 1<<63 - 760, 1 << 63},
	{12, top - 5, 100, 860},
}

// laid is the cells of a map without keys and of a room, in which all that is left has words that nobody laid there.
func laid(p place) words {
	w := words{}
	for addr := p.from; addr != p.to; addr++ {
		w[addr] = 9000 + addr - p.from
	}
	b := open(w)
	rooms.Lay(b, p.room, p.from, p.to)
	return b.words
}

// entry is a key and its value.
type entry struct{ key, value uint64 }

// sow lays a map of these entries at a place: it is laid here, not by the calls that are asked. Leaves and nodes lie one behind the other, as they come, from the room's first cell on.
func sow(p place, list ...entry) words {
	w := laid(p)
	next := p.from
	take := func(size uint64) uint64 {
		next += size
		return next - size
	}
	var grow func(at uint64, d int, list []entry)
	grow = func(at uint64, d int, list []entry) {
		for slot := range uint64(16) {
			var here []entry
			for _, e := range list {
				if digitOf(e.key, d) == slot {
					here = append(here, e)
				}
			}
			switch len(here) {
			case 0:
				w.set(at+slot, 0)
			case 1:
				a := take(2)
				w.set(at+slot, 2*a+1)
				w.set(a, here[0].key)
				w.set(a+1, here[0].value)
			default:
				a := take(16)
				w.set(at+slot, 2*a+2)
				grow(a, d+1, here)
			}
		}
	}
	grow(p.at, 0, list)
	w.set(p.room, next)
	return w
}

// spot is where a way ends in the cells: its cells, one a digit, and the word of the last one.
type spot struct {
	cells []uint64
	word  uint64
}

// spotOf goes a key's way in the cells, as the chapter tells it.
func (w words) spotOf(at, key uint64) spot {
	var s spot
	for d := range 16 {
		s.cells = append(s.cells, at+digitOf(key, d))
		s.word = w[s.cells[d]]
		if s.word == 0 || s.word%2 == 1 {
			break
		}
		at = (s.word - 2) / 2
	}
	return s
}

// way is the gets of a spot's cells.
func (s spot) way() []access {
	var list []access
	for _, c := range s.cells {
		list = append(list, get(c))
	}
	return list
}

// end is a spot's last cell.
func (s spot) end() uint64 { return s.cells[len(s.cells)-1] }

// leaf is where the leaf lies that is there.
func (s spot) leaf() uint64 { return (s.word - 1) / 2 }

// some is maps: without keys, with one, with many, whose ways part at the first digit, at later ones, and at the last one.
func some() [][]entry {
	long := keyOf("0123456789abcdef")
	many := []entry{{0, 0}, {top, top}}
	for n := range uint64(40) {
		many = append(many, entry{n*n + 1, n})
	}
	return [][]entry{
		nil,
		{{0, 5}},
		{{top, top}},
		{{1, 5}, {3, 6}},
		{{keyOf("9"), 1}, {keyOf("90000001"), 2}, {keyOf("91"), 3}},
		{{long, 7}, {keyOf("0123456789abcdee"), 8}},
		{{long, 7}, {keyOf("0123456789abcdee"), 8}, {keyOf("0123456789abcdff"), 9}, {keyOf("01234568"), 0}, {keyOf("f"), 1}},
		many[:24],
	}
}

// near is keys that are asked for: those of a map, such as begin as theirs do, and others.
func near(list []entry) []uint64 {
	keys := []uint64{0, 1, 2, 3, 1<<63 - 1, 1 << 63, top - 1, top}
	for _, e := range list {
		digits := digitsOf(e.key)
		for _, d := range []int{1, 2, 7, 14, 15} {
			last, _ := strconv.ParseUint(digits[d:d+1], 16, 64)
			keys = append(keys, keyOf(digits[:d]+strconv.FormatUint(last^1, 16)+digits[d+1:]))
		}
		keys = append(keys, e.key)
	}
	slices.Sort(keys)
	return slices.Compact(keys)
}

// valueOf is a key's value in a list of entries.
func valueOf(list []entry, key uint64) (uint64, bool) {
	for _, e := range list {
		if e.key == key {
			return e.value, true
		}
	}
	return 0, false
}

// cellsOf is entries as All tells them.
func cellsOf(list []entry) []api.Cell {
	var out []api.Cell
	for _, e := range list {
		out = append(out, api.Cell{Addr: e.key, Word: e.value})
	}
	slices.SortStableFunc(out, func(a, b api.Cell) int {
		if a.Addr < b.Addr {
			return -1
		}
		return map[bool]int{true: 1}[a.Addr > b.Addr]
	})
	return out
}
