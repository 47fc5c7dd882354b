package table

import (
	"fmt"
	"maps"
	"slices"
	"testing"

	"parley/api"
)

// letter is the chapter read sentence by sentence, over cells that may be anything: each get and each put in its order, and what comes of it. An error leaves it by a panic.
type letter struct {
	words words
	trace []access
	room  uint64
	at    uint64
}

func (l *letter) get(addr uint64) uint64 {
	l.trace = append(l.trace, get(addr))
	return l.words[addr]
}

func (l *letter) put(addr, word uint64) {
	l.trace = append(l.trace, put(addr, word))
	l.words.set(addr, word)
}

// take is P20.2.
func (l *letter) take(size uint64) uint64 {
	if first := l.get(l.room + 1 + size); first != 0 {
		l.put(l.room+1+size, l.get(first-1))
		return first - 1
	}
	next, to := l.get(l.room), l.get(l.room+1)
	if to <= next || to-next < size {
		panic(api.ErrRoom)
	}
	l.put(l.room, next+size)
	return next
}

// way is the way of a key: the cell of its end, what was got there, and the number of its digit.
func (l *letter) way(key uint64) (uint64, uint64, int) {
	at := l.at
	for d := range 16 {
		cell := at + digitOf(key, d)
		word := l.get(cell)
		if word%2 == 1 || word == 0 {
			return cell, word, d
		}
		at = word/2 - 1
	}
	panic(api.ErrDeep)
}

// leaf lays a leaf, and puts its slot into a cell.
func (l *letter) leaf(cell, key, value uint64) {
	a := l.take(2)
	l.put(a, key)
	l.put(a+1, value)
	l.put(cell, 2*a+1)
}

// change is P25.3 and Add of P25.4.
func (l *letter) change(key uint64, value func(old uint64) uint64) (uint64, bool) {
	cell, word, d := l.way(key)
	if word == 0 {
		l.leaf(cell, key, value(0))
		return 0, false
	}
	other := l.get(word / 2)
	if other == key {
		old := l.get(word/2 + 1)
		l.put(word/2+1, value(old))
		return old, true
	}
	for {
		if d++; d == 16 {
			panic(api.ErrDeep)
		}
		a := l.take(16)
		for n := range uint64(16) {
			l.put(a+n, 0)
		}
		l.put(cell, 2*a+2)
		cell = a + digitOf(key, d)
		if digitOf(key, d) != digitOf(other, d) {
			l.put(a+digitOf(other, d), word)
			l.leaf(cell, key, value(0))
			return 0, false
		}
	}
}

// delete is Delete of P25.4.
func (l *letter) delete(key uint64) (uint64, bool) {
	cell, word, _ := l.way(key)
	if word == 0 || l.get(word/2) != key {
		return 0, false
	}
	value := l.get(word/2 + 1)
	l.put(cell, 0)
	next := l.get(l.room + 3)
	l.put(word/2, next)
	l.put(l.room+3, word/2+1)
	return value, true
}

// look is Get of P25.2.
func (l *letter) look(key uint64) (uint64, bool) {
	if _, word, _ := l.way(key); word != 0 && l.get(word/2) == key {
		return l.get(word/2 + 1), true
	}
	return 0, false
}

// all is P25.5.
func (l *letter) all() []api.Cell {
	var list []api.Cell
	slots := 0
	var through func(at uint64, below int)
	through = func(at uint64, below int) {
		for n := range uint64(16) {
			word := l.get(at + n)
			if word == 0 {
				continue
			}
			if slots++; slots > 65536 || word%2 == 0 && below == 15 {
				panic(api.ErrDeep)
			}
			if word%2 == 0 {
				through(word/2-1, below+1)
				continue
			}
			list = append(list, api.Cell{Addr: l.get(word / 2), Word: l.get(word/2 + 1)})
		}
	}
	through(l.at, 0)
	slices.SortStableFunc(list, func(a, b api.Cell) int {
		if a.Addr == b.Addr {
			return 0
		}
		return map[bool]int{true: -1, false: 1}[a.Addr < b.Addr]
	})
	return list
}

// reads answers what a call does as the chapter tells it.
func (l *letter) reads(does func() answer) (a answer) {
	defer func() {
		if err, refused := recover().(api.Errno); refused {
			a = no(err)
		}
	}()
	return does()
}

// rite is a call, and the same by the letter.
type rite struct {
	name string
	call call
	does func(*letter) answer
}

// rites is all calls on a map, with a key and a value.
func rites(room, at, key, value uint64) []rite {
	return []rite{
		{"Put", puts(room, at, key, value), func(l *letter) answer {
			old, had := l.change(key, func(uint64) uint64 { return value })
			return answer{word: old, has: had}
		}},
		{"Add", adds(room, at, key, value), func(l *letter) answer {
			old, _ := l.change(key, func(old uint64) uint64 { return old + value })
			return answer{word: old + value}
		}},
		{"Delete", deletes(room, at, key), func(l *letter) answer {
			value, had := l.delete(key)
			return answer{word: value, has: had}
		}},
		{"Get", gets(at, key), func(l *letter) answer {
			value, has := l.look(key)
			return answer{word: value, has: has}
		}},
		{"Depth", depth(at, key), func(l *letter) answer {
			_, _, d := l.way(key)
			return answer{word: uint64(d)}
		}},
	}
}

// lists is the calls that go through all of a map.
func lists(at uint64) []rite {
	return []rite{
		{"All", allOf(at), func(l *letter) answer { return answer{list: text(l.all())} }},
		{"Keys", keysOf(at), func(l *letter) answer {
			var keys []uint64
			for _, c := range l.all() {
				keys = append(keys, c.Addr)
			}
			return answer{list: text(keys)}
		}},
		{"Len", length(at), func(l *letter) answer { return answer{word: uint64(len(l.all()))} }},
	}
}

// byLetter asks calls over these cells for what the chapter tells of them, access by access.
func byLetter(t *testing.T, w words, room, at uint64, calls []rite) {
	t.Helper()
	for _, r := range calls {
		l := &letter{words: maps.Clone(w), room: room, at: at}
		want := l.reads(func() answer { return r.does(l) })
		b := open(w)
		b.most = 1 << 20
		if got := r.call(b); got != want {
			t.Fatalf("%s over %v: answers %v, not %v", r.name, w, got, want)
		}
		if !slices.Equal(b.trace, l.trace) {
			t.Fatalf("%s over %v: goes by\n%v, not by\n%v", r.name, w, b.trace, l.trace)
		}
		if !maps.Equal(b.words, l.words) {
			t.Fatalf("%s over %v: the cells are %v, not %v", r.name, w, b.words, l.words)
		}
	}
}

// Cells that have any words: calls end, and do what the chapter says, access by access. The map, the room and what they lead to lie in one another's cells.
func TestAnyCells(t *testing.T) {
	d := drawn(31)
	for range 30000 {
		w := words{}
		span := 4 + d.below(90)
		for range d.below(60) {
			w.set(uint64(d.below(span)), uint64(d.below(2*span)))
		}
		at, room := uint64(d.below(span)), uint64(d.below(span))
		key := []uint64{0, 1, 2, uint64(d.below(span)), drawnKey(&d)}[d.below(5)]
		byLetter(t, w, room, at, rites(room, at, key, uint64(d.below(5))-2))
	}
}

// Cells that have few words, or words of all sizes: All ends, and does what the chapter says.
func TestAllOfAnyCells(t *testing.T) {
	d := drawn(32)
	for n := range 2500 {
		w := words{}
		span := 4 + d.below(120)
		for range d.below(8) {
			w.set(uint64(d.below(span)), uint64(d.below(2*span)))
		}
		if n%10 == 0 {
			for range 4 {
				w.set(uint64(d.below(16)), d.word())
			}
		}
		byLetter(t, w, 0, 0, lists(0))
	}
}

// A map with one slot that leads elsewhere: to what is no leaf, to the header, to a node, to another one's leaf.
func TestOneSlotThatLeadsElsewhere(t *testing.T) {
	for _, list := range some()[1:7] {
		p := place{20, 0, 40, 400}
		w := sow(p, list...)
		var slots []uint64
		for _, a := range w.through(20) {
			slots = append(slots, a.addr)
		}
		slices.Sort(slots)
		for k, slot := range slices.Compact(slots) {
			for n, word := range []uint64{0, 1, 2, 40, 41, 42, 2*20 + 2, 2*40 + 1, 2*40 + 2, 2*42 + 1, 2*42 + 2, 2*56 + 2, 1 << 63, top, top - 1} {
				if (n+k)%4 > 0 {
					continue
				}
				bad := maps.Clone(w)
				bad.set(slot, word)
				for _, e := range list {
					byLetter(t, bad, 0, 20, rites(0, 20, e.key, 5))
				}
				byLetter(t, bad, 0, 20, rites(0, 20, keyOf("0000001"), 5))
			}
		}
	}
}

// Pieces whose slots do not tell where they lie, since they lie at 2^63 or above, and nodes whose slot is 0: the calls do as the chapter says, by what the slots lead to.
func TestPiecesThatSlotsDoNotTell(t *testing.T) {
	for n, p := range []place{{20, 0, 1<<63 - 3, 1<<63 + 400}, {20, 0, 1<<63 + 3, 1<<63 + 400}, {20, 0, 1<<63 - 1, 1<<63 + 700}, {20, 0, top - 600, top}, {20, 0, top - 16, top}, {20, 0, 1<<63 - 17, 1<<63 + 60}} {
		t.Run(fmt.Sprint(n), func(t *testing.T) {
			d := drawn(n)
			w := words{0: p.from, 1: p.to}
			for range 200 {
				key := drawnKey(&d)
				calls := rites(0, 20, key, d.next())
				byLetter(t, w, 0, 20, calls)
				b := open(w)
				calls[d.below(3)].call(b)
				w = b.words
			}
			byLetter(t, w, 0, 20, lists(20))
		})
	}
}
