package skip

import (
	"slices"
	"testing"

	"parley/api"
)

// P22.4, P22.5: Has, After, First, Keys, Len of an empty set, of one word, of many, at, below and above each word.
func TestLooks(t *testing.T) {
	for n, p := range places {
		for m, nodes := range some {
			s := set(p, nodes...)
			s.deep = n == m%len(places)
			s.tellsAll(t, p.at)
			for _, x := range around(nodes) {
				s.looks(t, p.at, x)
			}
		}
	}
}

// P22.4, P22.5: each get of those that look, written out; they put nothing.
func TestLooksByHand(t *testing.T) {
	w := words{0: 47, 1: 100, 20: 44, 21: 44}
	w.lay(40, 7, 1, 0, 3, 2, 41, 0)
	down := []access{get(27), get(26), get(25), get(24), get(23), get(22), get(21), get(43)}
	asks(t, w, has(20, 3), yes, append(slices.Clone(down), get(20), get(43)))
	asks(t, w, has(20, 2), no, append(slices.Clone(down), get(20), get(43)))
	asks(t, w, has(20, 4), no, append(slices.Clone(down), get(46), get(45), get(40)))
	asks(t, w, has(20, 7), yes, append(slices.Clone(down), get(46), get(45), get(40)))
	asks(t, w, has(20, 8), no, append(slices.Clone(down), get(46), get(45), get(40), get(42)))
	asks(t, w, after(20, 2), tells(3), append(slices.Clone(down), get(20), get(43)))
	asks(t, w, after(20, 3), tells(7), append(slices.Clone(down), get(46), get(45), get(40)))
	asks(t, w, after(20, 6), tells(7), append(slices.Clone(down), get(46), get(45), get(40)))
	asks(t, w, after(20, 7), no, append(slices.Clone(down), get(46), get(45), get(40), get(42)))
	asks(t, w, first(20), tells(3), []access{get(20), get(43)})
	asks(t, w, keys(20), answer{list: "3 7"}, []access{get(20), get(43), get(45), get(40), get(42)})
	asks(t, w, length(20), answer{word: 2}, []access{get(20), get(43), get(45), get(40), get(42)})

	empty := []access{get(27), get(26), get(25), get(24), get(23), get(22), get(21), get(20)}
	asks(t, words{}, has(20, 0), no, empty)
	asks(t, words{}, after(20, 0), no, empty)
	asks(t, words{}, first(20), no, []access{get(20)})
	asks(t, words{}, keys(20), no, []access{get(20)})
	asks(t, words{}, length(20), no, []access{get(20)})
}

// P22.4: the word 0 is told beside a true, and what is above 0 is not 0.
func TestTheWordNought(t *testing.T) {
	for level := 1; level <= 8; level++ {
		s := set(places[0], piece{word: 0, level: level})
		b := open(s.words)
		for n, got := range []answer{first(20)(b), has(20, 0)(b), after(20, 0)(b), keys(20)(b), length(20)(b)} {
			if want := []answer{tells(0), yes, no, {list: "0"}, {word: 1}}[n]; got != want {
				t.Errorf("answers %v, not %v", got, want)
			}
		}
	}
}

// The cells of a node go round: its first two are the last of all, its links those from 0 on; or its first one is the last but two.
func TestNodesThatGoRound(t *testing.T) {
	p := place{100, 200, 320, 40}
	for level := 1; level <= 8; level++ {
		for _, node := range []uint64{top - 1, top - 2, top - 5} {
			s := set(p, piece{word: 3, level: 2}, piece{word: 8, level: 5})
			s.stand(piece{word: 5, node: node, level: level})
			s.tellsAll(t, p.at)
			for x := range uint64(10) {
				s.looks(t, p.at, x)
				s.copy().remove(t, p.at, x)
				s.copy().insert(t, p.at, x, 3)
			}
			// It is given back, and comes again.
			s.remove(t, p.at, 5)
			s.insert(t, p.at, 6, level)
			if n, _ := s.found(p.at, 6); s.sets[p.at][n].node != node {
				t.Errorf("the node lies at %d, not at %d", s.sets[p.at][n].node, node)
			}
			s.tellsAll(t, p.at)
		}
	}
}

// P22.5, P22.8: Keys of many words, whatever the levels, in memory of their own.
func TestManyWords(t *testing.T) {
	for _, levels := range []func(d *drawn) int{
		func(*drawn) int { return 1 },
		func(*drawn) int { return 8 },
		func(d *drawn) int { return Level(d.next(), d.next(), d.next(), d.next(), d.next(), d.next(), d.next()) },
		func(d *drawn) int { return d.below(12) - 2 },
	} {
		b, d := open(words{0: 40, 1: 100000}), drawn(4)
		var want []uint64
		for n := range uint64(1500) {
			x := n * 7919 % 1501 * 3
			want = append(want, x)
			if in, err := Insert(b, 0, 20, x, levels(&d)); !in || err != api.OK {
				t.Fatal(x, in, err)
			}
			b.trace = nil
		}
		slices.Sort(want)
		got, err := Keys(b, 20)
		if err != api.OK || !slices.Equal(got, want) {
			t.Fatalf("Keys answers %d words, %v", len(got), err)
		}
		clear(got)
		got = got[:cap(got)]
		clear(got)
		if again, err := Keys(b, 20); err != api.OK || !slices.Equal(again, want) {
			t.Errorf("Keys answers otherwise behind a change of its answer")
		}
		if n, err := Len(b, 20); n != 1500 || err != api.OK {
			t.Errorf("Len answers %d, %v", n, err)
		}
		for _, x := range []uint64{0, 3, 4, 4499, 4500, 4501, 4503, top} {
			_, there := slices.BinarySearch(want, x)
			if got, err := Has(b, 20, x); got != there || err != api.OK {
				t.Errorf("Has(%d) answers %v, %v", x, got, err)
			}
		}
	}
}

// With levels that look drawn a search looks at few nodes of many.
func TestSearchesAreShort(t *testing.T) {
	b, d := open(words{0: 40, 1: 100000}), drawn(9)
	for n := range uint64(2000) {
		Insert(b, 0, 20, n*7919%2003, Level(d.next(), d.next(), d.next(), d.next(), d.next(), d.next(), d.next()))
		b.trace = nil
	}
	gets := 0
	for x := range uint64(2003) {
		b.trace = nil
		Has(b, 20, x)
		gets += len(b.trace)
	}
	if gets > 2003*100 {
		t.Errorf("%d gets for 2003 words", gets)
	}
}

// P22.6: Level of no number, of even and odd ones, of more odd ones than 7.
func TestLevel(t *testing.T) {
	odd := []uint64{1, 3, 5, 7, 1<<32 + 1, 1<<63 + 1, top, 99, 1, 1, 1}
	even := []uint64{0, 2, 4, 1 << 32, 1 << 63, top - 1}
	if got := Level(); got != 1 {
		t.Errorf("Level of nothing is %d", got)
	}
	for n := range len(odd) + 1 {
		want := min(n+1, 8)
		row := slices.Clone(odd[:n])
		if got := Level(row...); got != want {
			t.Errorf("Level(%v) is %d, not %d", row, got, want)
		}
		for _, e := range even {
			row := append(slices.Clone(odd[:n]), e)
			if got := Level(row...); got != want {
				t.Errorf("Level(%v) is %d, not %d", row, got, want)
			}
			row = append(row, odd...)
			if got := Level(row...); got != want {
				t.Errorf("Level(%v) is %d, not %d", row, got, want)
			}
		}
	}
	if got := Level(make([]uint64, 100000)...); got != 1 {
		t.Errorf("Level of noughts is %d", got)
	}
	if got := Level(slices.Repeat([]uint64{top}, 100000)...); got != 8 {
		t.Errorf("Level of odd numbers is %d", got)
	}
	if got := Level(nil...); got != 1 {
		t.Errorf("Level of no list is %d", got)
	}
}

// P22.6: of bits that are drawn each level has half as many nodes as the one below it.
func TestLevelsOfAllBits(t *testing.T) {
	count := map[int]int{}
	for bits := range uint64(1 << 10) {
		var row []uint64
		for n := range 10 {
			row = append(row, bits>>n&1)
		}
		count[Level(row...)]++
	}
	for level, want := range map[int]int{1: 512, 2: 256, 3: 128, 4: 64, 5: 32, 6: 16, 7: 8, 8: 8} {
		if count[level] != want {
			t.Errorf("the level %d comes %d times, not %d", level, count[level], want)
		}
	}
}

// P22.8: the numbers stay, spare room behind them included.
func TestLevelKeepsItsNumbers(t *testing.T) {
	had := []uint64{1, 3, 2, 7, 9, 11}
	row := slices.Clone(had)
	if got := Level(row[:2]...); got != 3 || !slices.Equal(row, had) {
		t.Errorf("Level is %d, the numbers are %v", got, row)
	}
	if got := Level(row...); got != 3 || !slices.Equal(row, had) {
		t.Errorf("Level is %d, the numbers are %v", got, row)
	}
}
