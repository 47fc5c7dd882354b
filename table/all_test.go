package table

import (
	"slices"
	"testing"

	"parley/api"
)

// through is the gets by which a map is gone through, as the chapter tells it: slot by slot, of a leaf its key and its value, of a node at once all that it has.
func (w words) through(at uint64) []access {
	var list []access
	for cell := at; cell != at+16; cell++ {
		list = append(list, get(cell))
		switch word := w[cell]; {
		case word != 0 && word%2 == 0:
			list = append(list, w.through((word-2)/2)...)
		case word != 0:
			list = append(list, get((word-1)/2), get((word-1)/2+1))
		}
	}
	return list
}

// alike asks All, Keys and Len for what a map has: they go alike.
func alike(t *testing.T, w words, at uint64, list []api.Cell, trace ...[]access) {
	t.Helper()
	var keys []uint64
	for _, c := range list {
		keys = append(keys, c.Addr)
	}
	asks(t, w, allOf(at), answer{list: text(list)}, trace...)
	asks(t, w, keysOf(at), answer{list: text(keys)}, trace...)
	asks(t, w, length(at), answer{word: uint64(len(list))}, trace...)
}

// deep asks All, Keys and Len of what is no map: ErrDeep behind these gets.
func deep(t *testing.T, w words, at uint64, trace ...[]access) {
	t.Helper()
	for _, c := range []call{allOf(at), keysOf(at), length(at)} {
		asks(t, w, c, no(api.ErrDeep), trace...)
	}
}

// P25.5: All, Keys, Len of no key, of one, of many: rising by key, which is another order than that of the slots.
func TestAll(t *testing.T) {
	for _, p := range places {
		for _, list := range some() {
			w := sow(p, list...)
			alike(t, w, p.at, cellsOf(list), w.through(p.at))
			slices.Reverse(list)
			w = sow(p, list...)
			alike(t, w, p.at, cellsOf(list), w.through(p.at))
		}
	}
}

// P25.5: each get, cell by cell: a leaf, a node with a leaf and a node, a leaf behind it.
func TestAllByHand(t *testing.T) {
	keys := []uint64{keyOf("1"), keyOf("40"), keyOf("412"), keyOf("e")}
	w := words{
		21: 2*50 + 1, 50: keys[0], 51: 100,
		24: 2*200 + 2, 34: 2*56 + 1, 56: keys[3], 57: 103,
		200: 2*52 + 1, 52: keys[1], 53: 101,
		201: 2*300 + 2, 302: 2*54 + 1, 54: keys[2], 55: 102,
	}
	want := []api.Cell{{Addr: keys[0], Word: 100}, {Addr: keys[1], Word: 101}, {Addr: keys[2], Word: 102}, {Addr: keys[3], Word: 103}}
	slices.SortFunc(want, func(a, b api.Cell) int { return map[bool]int{true: -1, false: 1}[a.Addr < b.Addr] })
	trace := one(get(20), get(21), get(50), get(51), get(22), get(23), get(24))
	trace = row(trace, one(get(200), get(52), get(53), get(201)))
	trace = row(trace, one(get(300), get(301), get(302), get(54), get(55)), span(303, 315))
	trace = row(trace, span(202, 215), span(25, 34), one(get(56), get(57)), one(get(35)))
	alike(t, w, 20, want, trace)
	alike(t, words{}, 20, nil, span(20, 35))
	alike(t, words{}, top-3, nil, span(top-3, top), span(0, 11))
}

// span is the gets of cells one behind the other.
func span(from, upTo uint64) []access {
	list := one(get(from))
	for cell := from; cell != upTo; {
		cell++
		list = append(list, get(cell))
	}
	return list
}

// P25.5: keys that stand more than once come as often as they stand, in the order in which they do; and such as stand where their ways do not lead.
func TestAllOfKeysThatStandTwice(t *testing.T) {
	w := words{
		20: 2*100 + 1, 100: 7, 101: 1,
		22: 2*100 + 1,
		23: 2*200 + 2, 203: 2*102 + 1, 102: 7, 103: 5, 204: 2*104 + 1, 104: 3, 105: 9, 205: 2*106 + 1, 106: 7, 107: 0,
		29: 2*108 + 1, 108: 3, 109: 2,
		35: 2*102 + 1,
	}
	want := []api.Cell{{Addr: 3, Word: 9}, {Addr: 3, Word: 2}, {Addr: 7, Word: 1}, {Addr: 7, Word: 1}, {Addr: 7, Word: 5}, {Addr: 7, Word: 0}, {Addr: 7, Word: 5}}
	alike(t, w, 20, want, w.through(20))

	// So many of one key that a sort that lets them change places would do so.
	w = words{}
	want = nil
	for n := range uint64(16) {
		node := 1000 + 20*n
		w.set(20+n, 2*node+2)
		for k := range uint64(16) {
			leaf := 3000 + 2*(16*n+k)
			w.set(node+k, 2*leaf+1)
			w.set(leaf, k%2)
			w.set(leaf+1, 16*n+k)
		}
	}
	for odd := range uint64(2) {
		for n := range uint64(256) {
			if n%2 == odd {
				want = append(want, api.Cell{Addr: odd, Word: n})
			}
		}
	}
	alike(t, w, 20, want, w.through(20))
}

// P25.5: a leaf 15 nodes below the header; a node there, which is ErrDeep at once.
func TestAllFifteenBelow(t *testing.T) {
	for _, key := range []uint64{0, keyOf("0123456789abcdef"), keyOf("ffffffffffffffff")} {
		w, way := chain(key, 15, 2*900+1)
		w.set(900, key)
		w.set(901, 5)
		alike(t, w, 20, []api.Cell{{Addr: key, Word: 5}}, w.through(20))

		last := way[15].addr
		w.set(last, 2*2000+2)
		full := w.through(20)
		upTo := slices.Index(full, get(last))
		deep(t, w, 20, full[:upTo+1])
		// Slots ahead of it are told from leaves, and what they have is got.
		w.set(last-digitOf(key, 15), 2*900+1)
		full = w.through(20)
		if digitOf(key, 15) == 0 {
			alike(t, w, 20, []api.Cell{{Addr: key, Word: 5}}, full)
			continue
		}
		upTo = slices.Index(full, get(last))
		deep(t, w, 20, full[:upTo+1])
	}
}

// P25.5: a header that leads to itself, from its first slot, from its last one, and round another node: it comes to an end.
func TestAllThatGoesRound(t *testing.T) {
	w := words{20: 2*20 + 2}
	var trace []access
	for range 16 {
		trace = append(trace, get(20))
	}
	deep(t, w, 20, trace)

	w = words{35: 2*20 + 2}
	trace = nil
	for range 16 {
		trace = row(trace, span(20, 35))
	}
	deep(t, w, 20, trace)

	w = words{22: 2*100 + 2, 101: 2*20 + 2, 20: 2*50 + 1}
	trace = nil
	for range 8 {
		trace = row(trace, one(get(20), get(50), get(51), get(21), get(22), get(100), get(101)))
	}
	deep(t, w, 20, trace)
}

// bush is a map whose header's first fifteen slots lead to one node, whose sixteen slots lead to one node, and so on, three of them: 65535 slots that have something; keys stand in it many times.
func bush() words {
	w := words{}
	for n := range uint64(16) {
		if n < 15 {
			w.set(20+n, 2*100+2)
		}
		w.set(100+n, 2*200+2)
		w.set(200+n, 2*300+2)
		w.set(300+n, 2*(400+2*n)+1)
		w.set(400+2*n, 5)
		w.set(401+2*n, n)
	}
	return w
}

// P25.5: as many slots that have something as may be, and one more: ErrDeep as soon as that is got.
func TestAllOfManySlots(t *testing.T) {
	leaves := 15 * 16 * 16 * 16
	many := func(w words, count int) *book {
		t.Helper()
		b := open(w)
		list, err := All(b, 20)
		if len(list) != count || err != api.OK {
			t.Fatalf("All tells %d keys, %v, not %d", len(list), err, count)
		}
		for n := range 16 * 256 {
			if c := list[n]; c.Addr != 5 || c.Word != uint64(n%16) {
				t.Fatalf("tells %v at %d", c, n)
			}
		}
		keys, err := Keys(open(w), 20)
		if len(keys) != count || err != api.OK {
			t.Errorf("Keys tells %d keys, %v, not %d", len(keys), err, count)
		}
		if got, err := Len(open(w), 20); got != count || err != api.OK {
			t.Errorf("Len is %d, %v, not %d", got, err, count)
		}
		return b
	}
	few := func(w words, last ...access) {
		t.Helper()
		for _, c := range []call{allOf(20), keysOf(20), length(20)} {
			b := open(w)
			if got := c(b); got != no(api.ErrDeep) {
				t.Errorf("answers %v", got.err)
			}
			if end := b.trace[len(b.trace)-len(last):]; !slices.Equal(end, last) {
				t.Errorf("goes by %v at last, not by %v", end, last)
			}
		}
	}
	w := bush()
	b := many(w, leaves)
	if want := w.through(20); !slices.Equal(b.trace, want) {
		t.Errorf("goes by %d gets, not by %d", len(b.trace), len(want))
	}
	// A leaf more: all that may be.
	w.set(35, 2*500+1)
	w.set(500, 6)
	many(w, leaves+1)
	// A node without anything in its place.
	w.set(35, 2*600+2)
	many(w, leaves)
	// And one leaf in that node, or one node: too many.
	w.set(603, 2*500+1)
	few(w, get(35), get(600), get(601), get(602), get(603))
	w.set(603, 2*700+2)
	few(w, get(35), get(600), get(601), get(602), get(603))
	// The header's slots from the last one on all lead there: none of what is behind is asked for.
	w.set(35, 2*100+2)
	few(w, get(35), get(100))
}
