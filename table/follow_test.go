package table

import (
	"fmt"
	"maps"
	"slices"
	"testing"

	"parley/api"
)

// drawnKey is a key that looks drawn: one whose digits begin as many others' do, a small one, or any.
func drawnKey(d *drawn) uint64 {
	switch d.below(4) {
	case 0:
		return d.word()
	case 1:
		return uint64(d.below(40))
	}
	digits := make([]byte, 16)
	for n := range digits {
		digits[n] = "00000001f"[d.below(9)]
	}
	return keyOf(string(digits))
}

// step makes one drawn call.
func (s *shelf) step(t *testing.T, d *drawn, key uint64) {
	t.Helper()
	ats := slices.Sorted(maps.Keys(s.maps))
	at := ats[d.below(len(ats))]
	value := []uint64{0, 1, top, d.word()}[d.below(4)]
	switch n := d.below(100); {
	case n == 0 && len(ats) < 5:
		s.lay(t)
	case n < 5:
		s.lends(t, []uint64{2, 16}[d.below(2)], d)
	case n < 12 && len(s.others) > 0:
		s.returns(d.below(len(s.others)))
	case n < 40:
		s.change(t, at, key, value, both[0])
	case n < 65:
		s.change(t, at, key, value, both[1])
	default:
		s.delete(t, at, key)
	}
	p, b := s.maps[at], open(s.b.words)
	want := none
	if value, has := p.values[key]; has {
		want = is(value)
	}
	if got := gets(at, key)(b); got != want {
		t.Fatalf("Get of %d answers %v, not %v", key, got, want)
	}
	if got := depth(at, key)(b); got != (answer{word: uint64(p.depth(key))}) {
		t.Fatalf("Depth of %d answers %v, not %d", key, got, p.depth(key))
	}
}

// P25.6: drawn calls on several maps of one room, held against plain maps, between others' pieces of the same room.
func TestDrawnCalls(t *testing.T) {
	small := []place{{20, 0, 40, 100}, {20, 0, 40, 40}, {20, 0, 40, 43}, {20, 0, 40, 200}, {20, 0, 40, 3000}}
	for n, p := range append(small, places...) {
		t.Run(fmt.Sprint(n), func(t *testing.T) {
			d := drawn(100 + n)
			s := newShelf(p)
			for k := range 1200 {
				s.step(t, &d, drawnKey(&d))
				if k%10 == 0 {
					s.whole(t)
				}
			}
			s.whole(t)
		})
	}
}

// P25.6: drawn calls on one map of many keys.
func TestDrawnCallsOfMany(t *testing.T) {
	d := drawn(7)
	s := newShelf(place{20, 0, 40, 400000})
	s.b.words = words{0: 40, 1: 400000}
	keys := make([]uint64, 3000)
	for n := range keys {
		keys[n] = drawnKey(&d)
	}
	p := s.maps[20]
	for n := range 20000 {
		key, value := keys[d.below(len(keys))], d.word()
		old, had := p.values[key]
		switch want := none; d.below(3) {
		case 0:
			if had {
				want = is(old)
				p.delete(key)
			}
			if got := deletes(0, 20, key)(s.b); got != want {
				t.Fatalf("Delete answers %v, not %v", got, want)
			}
		default:
			p.put(key, value)
			if got := puts(0, 20, key, value)(s.b); got != (answer{word: old, has: had}) {
				t.Fatalf("Put answers %v, not %d, %v", got, old, had)
			}
		}
		s.b.trace = nil
		if n%5000 == 4999 {
			s.asksMap(t, 20)
		}
	}
}

// orders is all orders of a list, one after the other.
func orders[T any](list []T, each func([]T)) {
	var from func(n int)
	from = func(n int) {
		if n == len(list) {
			each(list)
			return
		}
		for k := n; k < len(list); k++ {
			list[n], list[k] = list[k], list[n]
			from(n + 1)
			list[n], list[k] = list[k], list[n]
		}
	}
	from(0)
}

// P25.6: where no key was deleted Depth hangs on the set of the keys alone, and so does how many cells are taken.
func TestDepthInAnyOrder(t *testing.T) {
	for _, digits := range [][]string{
		{"0", "00001", "00002", "1", "1f", "1f1"},
		{"5", "55", "555", "5555", "55555", "555555"},
		{"7777777777777777", "777777777777777a", "77777777777777a7", "7", "a", "7a"},
		{"1", "2", "3", "4", "5", "6"},
	} {
		var keys []uint64
		var list []entry
		for n, d := range digits {
			keys = append(keys, keyOf(d))
			list = append(list, entry{keyOf(d), uint64(n)})
		}
		taken := uint64(0)
		orders(slices.Clone(list), func(order []entry) {
			b := open(words{1: 1000, 0: 40})
			was := map[uint64]int{}
			for _, e := range order {
				if got := puts(0, 20, e.key, e.value)(b); got != none {
					t.Fatal(got)
				}
				for _, key := range keys {
					n, err := Depth(b, 20, key)
					if n < was[key] || n > 15 || err != api.OK {
						t.Fatalf("Depth is %d, %v, behind %d", n, err, was[key])
					}
					was[key] = n
				}
			}
			for _, key := range keys {
				if got := uint64(was[key]); got != depthOf(list, key) {
					t.Fatalf("Depth of %s is %d, not %d", digitsOf(key), got, depthOf(list, key))
				}
			}
			if got := allOf(20)(b); got != (answer{list: text(cellsOf(list))}) {
				t.Fatalf("All answers %v", got)
			}
			if taken == 0 {
				taken = b.words[0]
			}
			if b.words[0] != taken {
				t.Fatalf("the next cell is %d, not %d", b.words[0], taken)
			}
		})
	}
}

// P25.6: Depth never falls, though all keys are deleted and others come.
func TestDepthNeverFalls(t *testing.T) {
	d := drawn(3)
	b := open(words{1: 100000, 0: 40})
	asked := make([]uint64, 60)
	was := make([]int, len(asked))
	for n := range asked {
		asked[n] = drawnKey(&d)
	}
	for n := range 3000 {
		key := asked[d.below(len(asked))]
		if n%100 < 60 {
			Put(b, 0, 20, key, 1)
		} else {
			Delete(b, 0, 20, key)
		}
		b.trace = nil
		for k, key := range asked {
			now, err := Depth(b, 20, key)
			if now < was[k] || now > 15 || err != api.OK {
				t.Fatalf("Depth of %s is %d, %v, and was %d", digitsOf(key), now, err, was[k])
			}
			was[k] = now
		}
	}
}

// P25.6: Adds, none of which is refused, come to the same in any order, Puts of other keys between them, too.
func TestAddsInAnyOrder(t *testing.T) {
	first, other, third := keyOf("3"), keyOf("3000000000000001"), keyOf("31")
	list := []entry{{first, 1}, {first, top}, {other, 1 << 63}, {other, 1 << 63}, {third, 9}, {first, 7}}
	want := cellsOf([]entry{{first, 7}, {other, 0}, {third, 9}})
	orders(list, func(order []entry) {
		b := open(words{1: 1000, 0: 40})
		sums := map[uint64]uint64{}
		for _, e := range order {
			sums[e.key] += e.value
			if got := adds(0, 20, e.key, e.value)(b); got != (answer{word: sums[e.key]}) {
				t.Fatalf("Add answers %v, not %d", got, sums[e.key])
			}
		}
		if got := allOf(20)(b); got != (answer{list: text(want)}) {
			t.Fatalf("All answers %v, not %v", got, want)
		}
	})
}

// P25.6: all orders of a few calls on few keys, whose ways part late.
func TestAllSmallOrders(t *testing.T) {
	keys := []uint64{keyOf("2"), keyOf("21"), keyOf("211")}
	const kinds, steps = 9, 5
	all := 1
	for range steps {
		all *= kinds
	}
	for code := range all {
		s := newShelf(place{20, 0, 40, 78})
		for n := range steps {
			key := keys[code%3]
			switch code / 3 % 3 {
			case 0:
				s.change(t, 20, key, uint64(n), both[0])
			case 1:
				s.change(t, 20, key, uint64(n)+5, both[1])
			default:
				s.delete(t, 20, key)
			}
			code /= kinds
		}
		s.whole(t)
	}
}

// P25.6: calls on one map ask for no cell of another one, and put none.
func TestMapsApart(t *testing.T) {
	d := drawn(6)
	s := newShelf(place{20, 0, 40, 3000})
	s.lay(t)
	s.lay(t)
	ats := slices.Sorted(maps.Keys(s.maps))
	for range 900 {
		at := ats[d.below(len(ats))]
		others := map[uint64]bool{}
		for _, other := range ats {
			if other != at {
				for _, a := range s.b.words.through(other) {
					others[a.addr] = true
				}
			}
		}
		s.b.trace = nil
		switch key := drawnKey(&d); d.below(4) {
		case 0:
			s.change(t, at, key, 5, both[0])
		case 1:
			s.change(t, at, key, 5, both[1])
		case 2:
			s.delete(t, at, key)
		default:
			allOf(at)(s.b)
		}
		for _, a := range s.b.trace {
			if others[a.addr] {
				t.Fatalf("a call on the map at %d has asked for a cell of another one: %v", at, a)
			}
		}
	}
	s.whole(t)
}

// P25.6 by a tx that says no now and then: the block is given up, and the same call is made anew.
func TestBlocksThatAreGivenUp(t *testing.T) {
	d := drawn(12)
	s := newShelf(place{20, 0, 40, 900})
	for n := range 1200 {
		key := drawnKey(&d)
		kept := maps.Clone(s.b.words)
		s.b.trace, s.b.no, s.b.err = nil, d.below(25), api.ErrStale
		got := []call{puts(0, 20, key, 5), adds(0, 20, key, 5), deletes(0, 20, key), gets(20, key)}[n%4](s.b)
		if got.err != api.OK && got.err != api.ErrRoom && got != no(api.ErrStale) {
			t.Fatal(got)
		}
		s.b.trace, s.b.no, s.b.words = nil, -1, kept
		s.step(t, &d, key)
		if n%20 == 0 {
			s.whole(t)
		}
	}
}

// P25.7: lists that are answered share nothing with one another, with the cells or with what is answered next.
func TestAnswersAreNew(t *testing.T) {
	w := sow(places[0], some()[7]...)
	b := open(w)
	list, _ := All(b, 20)
	keys, _ := Keys(b, 20)
	want, wantKeys := slices.Clone(list), slices.Clone(keys)
	for _, l := range [][]api.Cell{list, list[:cap(list)]} {
		for n := range l {
			l[n] = api.Cell{Addr: 1, Word: 2}
		}
	}
	for n := range keys[:cap(keys)] {
		keys[:cap(keys)][n] = 3
	}
	again, _ := All(b, 20)
	keysAgain, _ := Keys(b, 20)
	if !slices.Equal(again, want) || !slices.Equal(keysAgain, wantKeys) {
		t.Errorf("tells %v and %v, not %v and %v", again, keysAgain, want, wantKeys)
	}
	if !maps.Equal(b.words, w) {
		t.Error("cells have changed")
	}
	if list, err := All(open(nil), 20); len(list) != 0 || err != api.OK {
		t.Error(list, err)
	}
}
