package skip

import (
	"math"
	"slices"
	"testing"
)

// some is sets, their words in the order in which they came, with levels.
var some = [][]piece{
	nil,
	{{word: 5, level: 1}},
	{{word: 0, level: 1}},
	{{word: top, level: 1}},
	{{word: 0, level: 8}},
	{{word: top, level: 8}},
	{{word: 5, level: 3}},
	{{word: 0, level: 2}, {word: top, level: 3}},
	{{word: top, level: 3}, {word: top - 1, level: 1}, {word: 0, level: 4}, {word: 1, level: 2}},
	{{word: 7, level: 1}, {word: 3, level: 2}},
	{{word: 2, level: 1}, {word: 5, level: 1}, {word: 9, level: 1}},
	{{word: 9, level: 8}, {word: 5, level: 8}, {word: 2, level: 8}},
	{{word: 5, level: 8}, {word: 9, level: 1}, {word: 2, level: 4}},
	{{word: 1 << 63, level: 2}, {word: 1<<63 - 1, level: 5}, {word: 1 << 32, level: 1}},
	{{word: 30, level: 1}, {word: 7, level: 3}, {word: 22, level: 1}, {word: 19, level: 2}, {word: 1, level: 1}, {word: 4, level: 6}, {word: 60, level: 2}, {word: 12, level: 1}},
}

// around is words at, below and above each word of a set, and at the edges.
func around(nodes []piece) []uint64 {
	asked := []uint64{0, 1, 1<<63 - 1, 1 << 63, top - 1, top}
	for _, n := range nodes {
		asked = append(asked, n.word-1, n.word, n.word+1)
	}
	slices.Sort(asked)
	return slices.Compact(asked)
}

// P22.2: Insert at the front, amid and at the end, of words that are there and that are not, of 0 and of the greatest word, of every level.
func TestInsert(t *testing.T) {
	for n, p := range places {
		for m, nodes := range some {
			s := set(p, nodes...)
			s.deep = n == m%len(places)
			for _, x := range around(nodes) {
				for level := 1; level <= 8; level++ {
					s.copy().insert(t, p.at, x, level)
				}
			}
		}
	}
}

// P22.2: levels below 1 and above 8.
func TestInsertOfOtherLevels(t *testing.T) {
	rows := []struct{ level, high int }{
		{0, 1}, {-1, 1}, {-8, 1}, {math.MinInt, 1}, {math.MinInt32, 1}, {-1 << 32, 1}, {1 - 1<<32, 1},
		{9, 8}, {10, 8}, {99, 8}, {256, 8}, {257, 8}, {1 << 32, 8}, {1<<32 + 2, 8}, {math.MaxInt, 8},
	}
	for _, p := range places {
		for _, r := range rows {
			s := set(p, piece{word: 5, level: 4})
			if !s.insert(t, p.at, 7, r.level) {
				t.Errorf("7 did not come in")
			}
			if got := s.words[p.from+6+1]; got != uint64(r.high) {
				t.Errorf("Insert of the level %d makes a node of the level %d", r.level, got)
			}
			s.insert(t, p.at, 7, r.level)
			s.insert(t, p.at, 2, r.level)
			s.tellsAll(t, p.at)
		}
	}
}

// P22.2: each get and put of Insert, written out.
func TestInsertByHand(t *testing.T) {
	w := words{0: 40, 1: 100}
	down := []access{get(27), get(26), get(25), get(24), get(23), get(22), get(21), get(20)}
	w = asks(t, w, insert(0, 20, 7, 1), yes, append(slices.Clone(down),
		get(4), get(0), get(1), put(0, 43), put(40, 7), put(41, 1), put(42, 0), put(20, 41)))
	w = asks(t, w, insert(0, 20, 3, 2), yes, append(slices.Clone(down),
		get(40), get(5), get(0), get(1), put(0, 47), put(43, 3), put(44, 2), put(45, 41), put(20, 44), put(46, 0), put(21, 44)))
	// It is there: the word of the node at 43 is got on the level 1, and goes on to its own link there.
	w = asks(t, w, insert(0, 20, 7, 5), no, []access{get(27), get(26), get(25), get(24), get(23), get(22), get(21), get(43), get(46), get(45), get(40)})
	w = asks(t, w, insert(0, 20, 5, 3), yes, []access{
		get(27), get(26), get(25), get(24), get(23), get(22), get(21), get(43), get(46), get(45), get(40),
		get(6), get(0), get(1), put(0, 52),
		put(47, 5), put(48, 3), put(49, 41), put(45, 48), put(50, 0), put(46, 48), put(51, 0), put(22, 48),
	})
	// The node at 47 is met on each of its levels: its word is got anew.
	asks(t, w, insert(0, 20, 4, 1), yes, []access{
		get(27), get(26), get(25), get(24), get(23), get(22), get(47), get(21), get(43), get(46), get(47), get(45), get(47),
		get(4), get(0), get(1), put(0, 55), put(52, 4), put(53, 1), put(54, 48), put(45, 53),
	})
}

// P22.2: when too few cells are left for the level nothing was put; a word that is there needs none, and a level below may go.
func TestInsertWithoutRoom(t *testing.T) {
	for _, p := range places {
		for left := uint64(0); left < 11; left++ {
			p.to = p.from + 7 + left
			s := set(p, piece{word: 5, level: 2}, piece{word: 9, level: 1})
			for level := 1; level <= 9; level++ {
				for _, x := range []uint64{0, 5, 7, 9, top} {
					c := s.copy()
					_, there := s.found(p.at, x)
					fits := uint64(min(level, 8)+2) <= left
					if in := c.insert(t, p.at, x, level); in != (!there && fits) {
						t.Errorf("Insert of %d, of the level %d, with %d cells left: %v", x, level, left, in)
					}
				}
			}
			// The cells of a node of another size are of no use; of its own they are.
			s.remove(t, p.at, 5)
			s.copy().insert(t, p.at, 6, 1)
			s.copy().insert(t, p.at, 6, 3)
			if !s.insert(t, p.at, 6, 2) {
				t.Errorf("the cells that were given back did not come")
			}
		}
	}
}

// P22.3: Remove of words that are there and that are not, of every level, at the front, amid and at the end.
func TestRemove(t *testing.T) {
	for n, p := range places {
		for m, nodes := range some {
			s := set(p, nodes...)
			s.deep = n == m%len(places)
			for _, x := range around(nodes) {
				s.copy().remove(t, p.at, x)
			}
		}
		for level := 1; level <= 8; level++ {
			for other := 1; other <= 8; other += 2 {
				s := set(p, piece{word: 3, level: other}, piece{word: 5, level: level}, piece{word: 8, level: other})
				s.deep = n == level
				s.remove(t, p.at, 5)
				s.remove(t, p.at, 5)
				s.remove(t, p.at, 3)
				s.remove(t, p.at, 8)
				s.tellsAll(t, p.at)
			}
		}
	}
}

// P22.3: each get and put of Remove, written out.
func TestRemoveByHand(t *testing.T) {
	w := words{0: 47, 1: 100, 20: 44, 21: 44}
	w.lay(40, 7, 1, 0, 3, 2, 41, 0)
	down := []access{get(27), get(26), get(25), get(24), get(23), get(22), get(21), get(43)}
	w = asks(t, w, remove(0, 20, 3), yes, append(slices.Clone(down),
		get(20), get(43), get(44), get(45), put(20, 41), get(46), put(21, 0), get(5), put(43, 0), put(5, 44)))
	w = asks(t, w, remove(0, 20, 3), no, []access{get(27), get(26), get(25), get(24), get(23), get(22), get(21), get(20), get(40)})
	w = asks(t, w, remove(0, 20, 8), no, []access{get(27), get(26), get(25), get(24), get(23), get(22), get(21), get(20), get(40), get(42)})
	asks(t, w, remove(0, 20, 7), yes, []access{
		get(27), get(26), get(25), get(24), get(23), get(22), get(21), get(20), get(40), get(41), get(42), put(20, 0), get(4), put(40, 0), put(4, 41),
	})
}

// P22.3: which cells come next out of the room: those of the same level that were given back last.
func TestWhichCellsComeNext(t *testing.T) {
	for _, p := range places {
		s := set(p, piece{word: 10, level: 2}, piece{word: 20, level: 3}, piece{word: 30, level: 2}, piece{word: 40, level: 2})
		for _, x := range []uint64{30, 20, 10} {
			s.remove(t, p.at, x)
		}
		rows := []struct {
			level int
			node  uint64
		}{{2, 0}, {2, 9}, {2, 17}, {3, 4}, {3, 21}, {1, 26}}
		for n, r := range rows {
			x := 50 + uint64(n)
			s.insert(t, p.at, x, r.level)
			at, _ := s.found(p.at, x)
			if got := s.sets[p.at][at].node - p.from; got != r.node {
				t.Errorf("the node of %d lies at %d, not at %d", x, got, r.node)
			}
		}
	}
}

// All sets of three words, of all of some levels: each word put in, of some levels, and taken out.
func TestAllSmallSets(t *testing.T) {
	p := places[0]
	levels := []int{1, 2, 4, 8}
	for code := range 4 * 4 * 4 {
		s := set(p, piece{word: 5, level: levels[code%4]}, piece{word: 1, level: levels[code/4%4]}, piece{word: 3, level: levels[code/16]})
		s.deep = code%8 == 3
		for x := range uint64(7) {
			s.looks(t, p.at, x)
			s.copy().remove(t, p.at, x)
			for _, level := range levels {
				s.copy().insert(t, p.at, x, level)
			}
		}
		s.tellsAll(t, p.at)
	}
}
