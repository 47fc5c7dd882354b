package explore

import (
	"slices"
	"testing"

	"parley/api"
)

// twin is the word that makes the sum of other words behind the same sum as that of these two: mixed of sum, a, b is mixed of sum, c, twin.
func twin(sum, a, b, c uint64) uint64 {
	const factor = 0x9e3779b97f4a7c15
	return b ^ (mixed(sum, a)+1)*factor ^ (mixed(sum, c)+1)*factor
}

// Rows whose sums are alike are told apart by their words: two ends that differ in nothing else are two.
func TestRowsOfOneSum(t *testing.T) {
	const a, b, c = 5, 6, 7
	d := twin(1, a, b, c)
	rows := newRows()
	x, y := rows.of([]uint64{a, b}), rows.of([]uint64{c, d})
	if x.sum != y.sum {
		t.Fatal("the sums are not alike")
	}
	if x == y || rows.of([]uint64{a, b}) != x || rows.of([]uint64{c, d}) != y || x.compare(y) != -1 || y.compare(x) != 1 {
		t.Error("they are one")
	}
	p := prog("const 0 0 | const 1 0 | const 2 1 | begin | put 0 7 | put 1 2 | end | const 0 0 | const 1 0 | halt")
	q := slices.Clone(p)
	p[0].N, p[1].N, q[0].N, q[1].N = a, b, c, d
	s := api.Script{Cells: 2, Programs: [][]api.Instr{p, q}}
	m, _ := agrees(t, s, 2000)
	if f := m.found(); f.Ends != 2 || len(m.ends()) != 2 {
		t.Errorf("%+v, %v", f, m.ends())
	}
	// The same within the parts of a greater row: cells 32 and 33, as a part of their own.
	s.Cells = 100
	p[2].N, q[2].N = 33, 33
	p, q = slices.Insert(p, 3, prog("const 7 32")...), slices.Insert(q, 3, prog("const 7 32")...)
	s.Programs = [][]api.Instr{p, q}
	if l, err := Ends(s); err != api.OK || len(l) != 2 || l[0].Cells[32] != a || l[1].Cells[33] != d {
		t.Errorf("%v, %v", l, err)
	}
}

// Threads whose sums are alike are told apart by all that they are.
func TestThreadsOfOneSum(t *testing.T) {
	// The thread 1 gets both words in one block: those that stood there, or those that the thread 0 has put there.
	const a, b, c = 5, 6, 7
	gets := prog("const 2 1 | begin | get 0 7 | get 1 2 | end | const 2 0 | halt")
	ended := api.Thread{Status: api.Ended, At: len(gets) - 1}
	sum := uint64(0)
	for _, word := range fixed(&ended) {
		sum = mixed(sum, word)
	}
	// All that stands ahead of the registers, and nothing behind them but noughts.
	ahead := uint64(0)
	for _, word := range slices.Concat([]uint64{uint64(api.Ended), 0, uint64(len(gets) - 1)}, make([]uint64, numbers-3)) {
		ahead = mixed(ahead, word)
	}
	d := twin(ahead, a, b, c)
	one, other := ended, ended
	one.Regs, other.Regs = [8]uint64{a, b}, [8]uint64{c, d}
	shelf := newStands()
	x, y := shelf.put(one), shelf.put(other)
	if x.sum != y.sum || x.sum == sum {
		t.Fatal("the sums are not alike")
	}
	if x == y || shelf.put(one) != x || shelf.put(other) != y {
		t.Error("they are one")
	}
	puts := prog("const 0 0 | const 1 0 | const 2 1 | begin | put 0 7 | put 1 2 | end | halt")
	puts[0].N, puts[1].N = c, d
	s := api.Script{Cells: 2, First: []uint64{a, b}, Programs: [][]api.Instr{puts, gets}}
	m, _ := agrees(t, s, 2000)
	if f := m.found(); f.Ends != 2 || len(m.ends()) != 2 {
		t.Errorf("%+v, %v", f, m.ends())
	}
}

// A row with another word has that word and all others, and is the one row of these words, of as many cells as there may be.
func TestRowsAreKeptOnce(t *testing.T) {
	for _, cells := range []int{1, 2, 15, 16, 17, 255, 256, 257, 300, 4095, 4096, 4097, 65535, 65536} {
		d := drawn(cells)
		words := make([]uint64, cells)
		for n := range words {
			words[n] = d.next() % 5
		}
		rows := newRows()
		first := rows.of(words)
		r := first
		for range 200 {
			at, word := d.below(cells), d.next()%5
			if d.below(10) == 0 {
				at = cells - 1
			}
			was := slices.Clone(words)
			words[at] = word
			next := rows.with(r, at, word)
			if next.word(at) != word || !slices.Equal(next.behind(nil), words) || !slices.Equal(r.behind(nil), was) {
				t.Fatalf("%d cells: a row with %d at %d has other words", cells, word, at)
			}
			if next != rows.of(words) || (next == r) != (was[at] == word) {
				t.Fatalf("%d cells: a row is kept twice", cells)
			}
			apart := map[int]uint64{}
			last := -1
			for addr, w := range r.apart(next) {
				if addr <= last {
					t.Fatalf("%d cells: %d behind %d", cells, addr, last)
				}
				apart[addr], last = w, addr
			}
			if _, has := apart[at]; has != (was[at] != word) || len(apart) > 1 {
				t.Fatalf("%d cells: they are apart at %v", cells, apart)
			}
			if r.compare(next) != slices.Compare(was, words) || first.compare(next) != slices.Compare(first.behind(nil), words) || next.compare(first) != -first.compare(next) {
				t.Fatalf("%d cells: another order", cells)
			}
			r = next
		}
		now := first.behind(nil)
		for addr, w := range first.apart(r) {
			if now[addr] == w {
				t.Fatalf("%d cells: they are not apart at %d", cells, addr)
			}
			now[addr] = w
		}
		if !slices.Equal(now, words) || first.word(0) != first.behind(nil)[0] || !r.has(0, words) || !r.has(cells/2, words[cells/2:]) {
			t.Fatalf("%d cells: what is apart is not all", cells)
		}
		words[cells-1]++
		if r.has(0, words) || r.has(cells-1, words[cells-1:]) || !r.has(0, words[:cells-1]) {
			t.Fatalf("%d cells: it has other words", cells)
		}
	}
}
