package explore

import (
	"cmp"
	"iter"
	"slices"
)

// fan is how many words a leaf has at most, and how many parts any other row.
const fan = 16

// row is a script's cells, or a part of them. Nobody changes it: with another word somewhere it is another row, which has all parts in common with it but those on the way to that word. So as many rows as there are states take little room, however many cells they have.
type row struct {
	words []uint64 // of a leaf alone
	parts []*row   // of any other row
	size  int      // how many cells each part has, but the last one; of a leaf 1
	sum   uint64
}

// rows is where rows stand: two of one size that have the same words are one.
type rows struct{ shelf[row] }

func newRows() rows { return rows{newShelf(sameRow)} }

// sameRow tells whether two rows have the same words, if their parts are on the shelf.
func sameRow(r, other *row) bool {
	return r.size == other.size && slices.Equal(r.words, other.words) && slices.Equal(r.parts, other.parts)
}

// put sums a row up, whose parts are on the shelf, and puts it there.
func (h rows) put(r row) *row {
	r.sum = uint64(r.size)
	for _, word := range r.words {
		r.sum = mixed(r.sum, word)
	}
	for _, part := range r.parts {
		r.sum = mixed(r.sum, part.sum)
	}
	return h.keep(r.sum, &r)
}

// of is a row of these words.
func (h rows) of(words []uint64) *row {
	size := 1
	for size*fan < len(words) {
		size *= fan
	}
	return h.laid(words, size)
}

// laid is a row of these words in parts of that size.
func (h rows) laid(words []uint64, size int) *row {
	r := row{size: size}
	if size == 1 {
		r.words = slices.Clone(words)
		return h.put(r)
	}
	for part := range slices.Chunk(words, size) {
		r.parts = append(r.parts, h.laid(part, size/fan))
	}
	return h.put(r)
}

// with is a row with another word somewhere.
func (h rows) with(r *row, addr int, word uint64) *row {
	out := row{size: r.size}
	if r.size == 1 {
		out.words = slices.Clone(r.words)
		out.words[addr] = word
		return h.put(out)
	}
	part := addr / r.size
	out.parts = slices.Clone(r.parts)
	out.parts[part] = h.with(r.parts[part], addr%r.size, word)
	return h.put(out)
}

// word is the word of a cell.
func (r *row) word(addr int) uint64 {
	for r.size > 1 {
		addr, r = addr%r.size, r.parts[addr/r.size]
	}
	return r.words[addr]
}

// has tells whether these words stand there from an address on.
func (r *row) has(from int, words []uint64) bool {
	for n, word := range words {
		if r.word(from+n) != word {
			return false
		}
	}
	return true
}

// behind is a list with all words behind it.
func (r *row) behind(l []uint64) []uint64 {
	l = append(l, r.words...)
	for _, part := range r.parts {
		l = part.behind(l)
	}
	return l
}

// apart tells where two rows of one script differ, rising, with the other one's words. What they have in common is passed over as a whole.
func (r *row) apart(other *row) iter.Seq2[int, uint64] {
	return func(yield func(int, uint64) bool) { r.tellApart(other, 0, yield) }
}

// tellApart is apart of two parts that stand from an address on; whether to go on behind them.
func (r *row) tellApart(other *row, from int, yield func(int, uint64) bool) bool {
	if r == other {
		return true
	}
	for n, word := range other.words {
		if r.words[n] != word && !yield(from+n, word) {
			return false
		}
	}
	for n, part := range r.parts {
		if !part.tellApart(other.parts[n], from+n*r.size, yield) {
			return false
		}
	}
	return true
}

// compare puts two rows of one script in order, by the first word in which they differ.
func (r *row) compare(other *row) int {
	for addr, word := range r.apart(other) {
		return cmp.Compare(r.word(addr), word)
	}
	return 0
}
