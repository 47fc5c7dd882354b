package table

import (
	"strings"
	"testing"

	"parley/api"
)

// depthOf is a key's depth in a map of these entries, none of which was deleted: as many of its digits as two keys begin with.
func depthOf(list []entry, key uint64) uint64 {
	deep := uint64(0)
	for d := 1; d < 16; d++ {
		begin := 0
		for _, e := range list {
			if strings.HasPrefix(digitsOf(e.key), digitsOf(key)[:d]) {
				begin++
			}
		}
		if begin > 1 {
			deep = uint64(d)
		}
	}
	return deep
}

// P25.2: Get and Depth of maps without keys, with one, with many, of keys that are there and of others that begin alike: each get in its order.
func TestGetAndDepth(t *testing.T) {
	for _, p := range places {
		for _, list := range some() {
			w := sow(p, list...)
			for _, key := range near(list) {
				s := w.spotOf(p.at, key)
				asks(t, w, depth(p.at, key), answer{word: depthOf(list, key)}, s.way())
				value, has := valueOf(list, key)
				switch {
				case has:
					asks(t, w, gets(p.at, key), is(value), s.way(), one(get(s.leaf()), get(s.leaf()+1)))
				case s.word == 0:
					asks(t, w, gets(p.at, key), none, s.way())
				default:
					asks(t, w, gets(p.at, key), none, s.way(), one(get(s.leaf())))
				}
			}
		}
	}
}

// P25.2: the gets of three keys, cell by cell: two whose digits begin 0 1 2, one whose digits begin 0 3.
func TestGetByHand(t *testing.T) {
	first, other, third := keyOf("012a"), keyOf("012b"), keyOf("03")
	w := words{
		20:      2*100 + 2,                                       // digit 0: a node
		100 + 1: 2*200 + 2, 100 + 3: 2*50 + 1, 50: third, 51: 33, // digit 1: a node, and the third key's leaf
		200 + 2:  2*300 + 2,                                                                         // digit 2: a node
		300 + 10: 2*60 + 1, 60: first, 61: 11, 300 + 11: 2*70 + 1, 70: other, 71: 0, 300 + 12: 0xff, // digit 3
		127: other, 128: 99,
	}
	asks(t, w, gets(20, first), is(11), one(get(20), get(101), get(202), get(310), get(60), get(61)))
	asks(t, w, gets(20, other), is(0), one(get(20), get(101), get(202), get(311), get(70), get(71)))
	asks(t, w, gets(20, third), is(33), one(get(20), get(103), get(50), get(51)))
	asks(t, w, gets(20, keyOf("03f")), none, one(get(20), get(103), get(50)))
	asks(t, w, gets(20, keyOf("02")), none, one(get(20), get(102)))
	asks(t, w, gets(20, keyOf("1")), none, one(get(21)))
	asks(t, w, gets(20, keyOf("013")), none, one(get(20), get(101), get(203)))
	// 0xff leads to a leaf at 127, whose key is another one than this way's.
	asks(t, w, gets(20, keyOf("012c")), none, one(get(20), get(101), get(202), get(312), get(127)))
	asks(t, w, depth(20, first), answer{word: 3}, one(get(20), get(101), get(202), get(310)))
	asks(t, w, depth(20, third), answer{word: 1}, one(get(20), get(103)))
	asks(t, w, depth(20, keyOf("02")), answer{word: 1}, one(get(20), get(102)))
	asks(t, w, depth(20, keyOf("012c")), answer{word: 3}, one(get(20), get(101), get(202), get(312)))
	asks(t, w, depth(20, keyOf("f")), answer{word: 0}, one(get(35)))
}

// chain is cells in which a key's way goes from a map's header at 20 through as many nodes, each 20 cells behind the one ahead; the slot at its end has this word.
func chain(key uint64, nodes int, end uint64) (words, []access) {
	w, way := words{}, []access(nil)
	at := uint64(20)
	for d := range nodes {
		w.set(at+digitOf(key, d), 2*(at+20)+2)
		way = append(way, get(at+digitOf(key, d)))
		at += 20
	}
	if nodes < 16 {
		w.set(at+digitOf(key, nodes), end)
		way = append(way, get(at+digitOf(key, nodes)))
	}
	return w, way
}

// P25.2: ways through as many nodes as there can be, and through one more, which would need a digit 16.
func TestDeepWays(t *testing.T) {
	for _, key := range []uint64{0, 1, top, keyOf("0123456789abcdef"), keyOf("fffffffffffffffe")} {
		for nodes := range 16 {
			w, way := chain(key, nodes, 0)
			asks(t, w, gets(20, key), none, way)
			asks(t, w, depth(20, key), answer{word: uint64(nodes)}, way)
			asks(t, w, deletes(1000, 20, key), none, way)

			w, way = chain(key, nodes, 2*900+1)
			w.set(900, key)
			w.set(901, 5)
			asks(t, w, gets(20, key), is(5), way, one(get(900), get(901)))
			asks(t, w, depth(20, key), answer{word: uint64(nodes)}, way)
		}
		w, way := chain(key, 16, 0)
		if len(way) != 16 {
			t.Fatal(way)
		}
		asks(t, w, gets(20, key), no(api.ErrDeep), way)
		asks(t, w, depth(20, key), no(api.ErrDeep), way)
		asks(t, w, puts(1000, 20, key, 1), no(api.ErrDeep), way)
		asks(t, w, adds(1000, 20, key, 1), no(api.ErrDeep), way)
		asks(t, w, deletes(1000, 20, key), no(api.ErrDeep), way)
	}
}

// P25.2: a header that leads to itself, and nodes that lead round.
func TestWaysThatGoRound(t *testing.T) {
	key := keyOf("7777777777777777")
	w := words{27: 2*20 + 2}
	var way []access
	for range 16 {
		way = append(way, get(27))
	}
	asks(t, w, gets(20, key), no(api.ErrDeep), way)
	asks(t, w, depth(20, key), no(api.ErrDeep), way)
	// Another key comes out of the round.
	asks(t, w, depth(20, keyOf("7778")), answer{word: 3}, one(get(27), get(27), get(27), get(28)))
	w = words{27: 2*100 + 2, 107: 2*20 + 2}
	for n := range way {
		way[n] = get([]uint64{27, 107}[n%2])
	}
	asks(t, w, gets(20, key), no(api.ErrDeep), way)
	asks(t, w, depth(20, key), no(api.ErrDeep), way)
}

// Words of slots that lead to the edges of words, and what is there goes round.
func TestSlotsAtTheEdges(t *testing.T) {
	key := keyOf("5a")
	for _, r := range []struct{ word, leaf uint64 }{{1, 0}, {3, 1}, {top, 1<<63 - 1}, {top - 2, 1<<63 - 2}, {1<<63 + 1, 1 << 62}} {
		w := words{25: r.word, r.leaf: key, r.leaf + 1: 88}
		asks(t, w, gets(20, key), is(88), one(get(25), get(r.leaf), get(r.leaf+1)))
		asks(t, w, gets(20, keyOf("5b")), none, one(get(25), get(r.leaf)))
	}
	for _, r := range []struct{ word, node uint64 }{{2, 0}, {4, 1}, {top - 1, 1<<63 - 2}, {top - 3, 1<<63 - 3}, {1 << 63, 1<<62 - 1}} {
		w := words{1025: r.word, r.node + 10: 2*500 + 1, 500: key, 501: 77}
		asks(t, w, gets(1020, key), is(77), one(get(1025), get(r.node+10), get(500), get(501)))
		asks(t, w, depth(1020, key), answer{word: 1}, one(get(1025), get(r.node+10)))
	}
	// A header of which the last cells come round.
	w := words{top: 2*500 + 1, 500: keyOf("3"), 501: 5, 11: 2*600 + 1, 600: keyOf("f"), 601: 6}
	asks(t, w, gets(top-3, keyOf("3")), is(5), one(get(top), get(500), get(501)))
	asks(t, w, gets(top-3, keyOf("f")), is(6), one(get(11), get(600), get(601)))
	asks(t, w, gets(top-3, keyOf("4")), none, one(get(0)))
	if _, has, err := Get(open(w), top-3, 12345); has || err != api.OK {
		t.Error(has, err)
	}
}
