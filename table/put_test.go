package table

import (
	"testing"

	"parley/api"
	rooms "parley/room"
)

// leafPuts is how a leaf's cells are put, and its slot.
func leafPuts(piece, key, value, cell uint64) []access {
	return one(put(piece, key), put(piece+1, value), put(cell, 2*piece+1))
}

// changes is a call that lets a key have a value, what it answers of a key with this old one, and which value the key has then.
type changes struct {
	name string
	call func(room, at, key, value uint64) call
	want func(old uint64, had bool, value uint64) answer
	then func(old, value uint64) uint64
}

// both is Put and Add: they go alike.
var both = []changes{
	{"Put", puts, func(old uint64, had bool, _ uint64) answer { return answer{word: old, has: had} }, func(_, value uint64) uint64 { return value }},
	{"Add", adds, func(old uint64, _ bool, value uint64) answer { return answer{word: old + value} }, func(old, value uint64) uint64 { return old + value }},
}

// P25.3, P25.4: Put and Add of a key that is there: its value's cell alone is put.
func TestPutOfAKeyThatIsThere(t *testing.T) {
	for _, c := range both {
		for _, p := range places {
			for _, list := range some() {
				w := sow(p, list...)
				for _, e := range list {
					for _, value := range []uint64{0, 1, e.value, 99, top - e.value, top - e.value + 1, top} {
						s, now := w.spotOf(p.at, e.key), c.then(e.value, value)
						got := asks(t, w, c.call(p.room, p.at, e.key, value), c.want(e.value, true, value), s.way(), one(get(s.leaf()), get(s.leaf()+1), put(s.leaf()+1, now)))
						asks(t, got, gets(p.at, e.key), is(now), s.way(), one(get(s.leaf()), get(s.leaf()+1)))
					}
				}
			}
		}
	}
}

// P25.3, P25.4: Put and Add of a key whose end has nothing: a leaf is laid, and hung there.
func TestPutOfANewKey(t *testing.T) {
	for _, c := range both {
		for _, p := range places {
			for _, list := range some() {
				w := sow(p, list...)
				next := w[p.room]
				for n, key := range near(list) {
					s, value := w.spotOf(p.at, key), []uint64{0, 5, top}[n%3]
					if s.word != 0 {
						continue
					}
					got := asks(t, w, c.call(p.room, p.at, key, value), c.want(0, false, value), s.way(), fresh(p.room, 2, next), leafPuts(next, key, value, s.end()))
					asks(t, got, gets(p.at, key), is(value), s.way(), one(get(next), get(next+1)))
				}
			}
		}
	}
}

// pushed is the accesses by which a leaf is pushed down: as many nodes as are needed till the digits part, out of cells that were never taken; and those of the new leaf.
func pushed(room, next uint64, s spot, other, key, value uint64) []access {
	list := one(get(s.leaf()))
	cell := s.end()
	for d := len(s.cells); d < 16; d++ {
		list = row(list, fresh(room, 16, next), zeros(next), one(put(cell, 2*next+2)))
		if digitOf(other, d) != digitOf(key, d) {
			own := next + digitOf(key, d)
			list = append(list, put(next+digitOf(other, d), s.word))
			next += 16
			return row(list, fresh(room, 2, next), leafPuts(next, key, value, own))
		}
		cell = next + digitOf(key, d)
		next += 16
	}
	return list
}

// P25.3, P25.4: Put and Add of a key whose end has another one's leaf: nodes are laid till the digits part.
func TestPutPushesDown(t *testing.T) {
	for _, c := range both {
		for _, p := range places {
			for _, list := range some() {
				w := sow(p, list...)
				for n, key := range near(list) {
					s, value := w.spotOf(p.at, key), []uint64{0, 5, top}[n%3]
					if _, has := valueOf(list, key); has || s.word == 0 {
						continue
					}
					other := w[s.leaf()]
					got := asks(t, w, c.call(p.room, p.at, key, value), c.want(0, false, value), s.way(), pushed(p.room, w[p.room], s, other, key, value))
					now := got.spotOf(p.at, key)
					asks(t, got, gets(p.at, key), is(value), now.way(), one(get(now.leaf()), get(now.leaf()+1)))
					kept, _ := valueOf(list, other)
					now = got.spotOf(p.at, other)
					asks(t, got, gets(p.at, other), is(kept), now.way(), one(get(now.leaf()), get(now.leaf()+1)))
				}
			}
		}
	}
}

// P25.3: one digit more, written out: the keys' digits begin 5 1 and 5 c.
func TestPutPushesDownByOne(t *testing.T) {
	old, newer := keyOf("51"), keyOf("5c")
	p := place{20, 0, 40, 100}
	w := sow(p, entry{old, 8})
	got := asks(t, w, puts(0, 20, newer, 9), none,
		one(get(25), get(40)),
		one(get(17), get(0), get(1), put(0, 58)),
		zeros(42), one(put(25, 2*42+2), put(42+1, 81)),
		one(get(3), get(0), get(1), put(0, 60)),
		one(put(58, newer), put(59, 9), put(42+12, 2*58+1)))
	asks(t, got, gets(20, old), is(8), one(get(25), get(43), get(40), get(41)))
	asks(t, got, gets(20, newer), is(9), one(get(25), get(54), get(58), get(59)))
}

// P25.3: keys whose digits are the same up to the one ahead of the last, written out: fifteen nodes.
func TestPutPushesDownToTheLastDigit(t *testing.T) {
	old, newer := keyOf("6666666666666660"), keyOf("666666666666666f")
	p := place{20, 0, 40, 40 + 2 + 15*16 + 2}
	w := sow(p, entry{old, 8})
	want := one(get(26), get(40))
	cell, node := uint64(26), uint64(42)
	for n := range 15 {
		want = row(want, one(get(17), get(0), get(1), put(0, node+16)), zeros(node), one(put(cell, 2*node+2)))
		cell = node + 6
		if n < 14 {
			node += 16
		}
	}
	want = append(want, put(node, 81), get(3), get(0), get(1), put(0, node+18), put(node+16, newer), put(node+17, 9), put(node+15, 2*(node+16)+1))
	got := asks(t, w, puts(0, 20, newer, 9), none, want)
	for n := range want {
		refused(t, w, puts(0, 20, newer, 9), n, noes[n%len(noes)], want)
	}
	if n, err := Depth(open(got), 20, old); n != 15 || err != api.OK {
		t.Errorf("Depth is %d, %v", n, err)
	}
	if left, _ := rooms.Left(open(got), 0); left != 0 {
		t.Errorf("%d are left", left)
	}
}

// P25.3: pieces that were given back are the next ones, for leaves and for nodes; what they had is put over.
func TestPutOfGivenPieces(t *testing.T) {
	p := place{20, 0, 40, 200}
	b := open(sow(p, entry{keyOf("1234"), 8}, entry{keyOf("2"), 3}))
	var nodes [2]uint64
	for n := range nodes {
		nodes[n], _ = rooms.Take(b, 0, 16)
		for k := range uint64(16) {
			b.Put(nodes[n]+k, top-k)
		}
	}
	leaf, _ := rooms.Take(b, 0, 2)
	b.Put(leaf, 5)
	b.Put(leaf+1, 6)
	rooms.Give(b, 0, nodes[0], 16)
	rooms.Give(b, 0, nodes[1], 16)
	rooms.Give(b, 0, leaf, 2)
	w, key := b.words, keyOf("1235")
	next := w[0]
	first := keyOf("1234")
	got := asks(t, w, puts(0, 20, key, 0), none,
		one(get(21), get(40)),
		again(0, 16, nodes[1], nodes[0]+1), zeros(nodes[1]), one(put(21, 2*nodes[1]+2)),
		again(0, 16, nodes[0], 0), zeros(nodes[0]), one(put(nodes[1]+2, 2*nodes[0]+2)),
		fresh(0, 16, next), zeros(next), one(put(nodes[0]+3, 2*next+2)),
		one(put(next+4, 81)),
		again(0, 2, leaf, 0), leafPuts(leaf, key, 0, next+5))
	asks(t, got, gets(20, first), is(8), one(get(21), get(nodes[1]+2), get(nodes[0]+3), get(next+4), get(40), get(41)))
	asks(t, got, gets(20, key), is(0), one(get(21), get(nodes[1]+2), get(nodes[0]+3), get(next+5), get(leaf), get(leaf+1)))
}

// P25.3, P25.4: a room that refuses at the leaf: nothing is put.
func TestPutWithoutALeaf(t *testing.T) {
	for _, c := range both {
		for _, p := range places {
			for _, cells := range []uint64{0, 1} {
				p.to = p.from + cells
				key := keyOf("4")
				asks(t, laid(p), c.call(p.room, p.at, key, 1), no(api.ErrRoom), one(get(p.at+4)), noRoom(p.room, 2))
			}
		}
	}
}

// P25.3, P25.4: a room that refuses at a node, at the second one, at the leaf behind them: what was put till then is put.
func TestPutWithoutANode(t *testing.T) {
	old, key := keyOf("4449"), keyOf("444c")
	for _, c := range both {
		for _, p := range places {
			for cells := range uint64(3*16 + 3) {
				small := p
				small.to = p.from + 2 + cells
				w := sow(small, entry{old, 8})
				a := p.from
				trace, cell, left, next := one(get(p.at+4), get(a)), p.at+4, cells, a+2
				for n := range 3 {
					if left < 16 {
						trace = row(trace, noRoom(p.room, 16))
						break
					}
					trace = row(trace, fresh(p.room, 16, next), zeros(next), one(put(cell, 2*next+2)))
					cell, left, next = next+4, left-16, next+16
					if n == 2 {
						trace = append(trace, put(next-16+9, 2*a+1))
						cell = next - 16 + 12
					}
				}
				switch {
				case cells >= 3*16+2:
					trace = row(trace, fresh(p.room, 2, next), leafPuts(next, key, 3, cell))
					asks(t, w, c.call(p.room, p.at, key, 3), c.want(0, false, 3), trace)
					continue
				case cells >= 3*16:
					trace = row(trace, noRoom(p.room, 2))
				}
				asks(t, w, c.call(p.room, p.at, key, 3), no(api.ErrRoom), trace)
			}
		}
	}
}

// P25.3: leaves that stand where their keys' ways do not lead: pushed down till a digit 16 would be needed, or till digits part.
func TestPutBesideALeafThatStandsWrong(t *testing.T) {
	key := keyOf("3888888888888888")
	for _, c := range both {
		// Of the same digits from the second one on: fifteen nodes, and then none.
		other := keyOf("5888888888888888")
		w := laid(place{20, 0, 40, 600})
		w.set(23, 2*500+1)
		w.set(500, other)
		s := w.spotOf(20, key)
		got := asks(t, w, c.call(0, 20, key, 1), no(api.ErrDeep), s.way(), pushed(0, 40, s, other, key, 1))
		if got[0] != 40+15*16 {
			t.Errorf("%d cells were taken", got[0]-40)
		}
		asks(t, got, c.call(0, 20, key, 1), c.want(0, false, 1), got.spotOf(20, key).way(), fresh(0, 2, got[0]), leafPuts(got[0], key, 1, got.spotOf(20, key).end()))

		// Of other digits from the second one on: one node is enough.
		other = keyOf("54")
		w.set(500, other)
		got = asks(t, w, c.call(0, 20, key, 1), c.want(0, false, 1), s.way(), pushed(0, 40, s, other, key, 1))
		if got[0] != 40+16+2 {
			t.Errorf("%d cells were taken", got[0]-40)
		}

		// At the last digit there is no place below: nothing is put.
		for _, other := range []uint64{keyOf("54"), 0, top, key + 1} {
			w, way := chain(key, 15, 2*900+1)
			w.set(900, other)
			asks(t, w, c.call(1000, 20, key, 1), no(api.ErrDeep), way, one(get(900)))
		}
		// One above the last one there is.
		w, way := chain(key, 14, 2*900+1)
		w.set(900, keyOf("3888888888888848"))
		b := open(w)
		rooms.Lay(b, 1000, 2000, 3000)
		s = b.words.spotOf(20, key)
		asks(t, b.words, c.call(1000, 20, key, 1), no(api.ErrDeep), way, pushed(1000, 2000, s, keyOf("3888888888888848"), key, 1))
		b.words.set(900, keyOf("3888888888888884"))
		asks(t, b.words, c.call(1000, 20, key, 1), c.want(0, false, 1), way, pushed(1000, 2000, s, keyOf("3888888888888884"), key, 1))
	}
}

// P25.4: Add to keys that are there and that are not, going round.
func TestAdd(t *testing.T) {
	b := open(laid(place{20, 0, 40, 400}))
	for _, r := range []struct{ key, value, want uint64 }{
		{8, 3, 3}, {8, 4, 7}, {8, 0, 7}, {8, top, 6}, {8, top - 5, 0}, {8, top, top}, {8, 1, 0}, {8, 1 << 63, 1 << 63}, {8, 1 << 63, 0},
		{9, 0, 0}, {9, 1, 1}, {0, top, top}, {0, top, top - 1}, {top, 1, 1},
	} {
		if got := adds(0, 20, r.key, r.value)(b); got != (answer{word: r.want}) {
			t.Errorf("Add of %d to %d answers %v, not %d", r.value, r.key, got, r.want)
		}
		if got := gets(20, r.key)(b); got != is(r.want) {
			t.Errorf("Get of %d answers %v, not %d", r.key, got, r.want)
		}
	}
}
