package opaque

import (
	"cmp"
	"slices"

	"parley/api"
	"parley/events"
	"parley/witness"
)

// stand is a word of a cell, with the number of writing commits from which on it stood there.
type stand struct {
	since int
	word  uint64
}

// past is a history over its cells: its attempts, and which words the cells had behind each number of writing commits.
type past struct {
	first   []uint64
	tries   []api.Try
	blocks  []api.Block        // the attempts again, with what they read and wrote
	writing []api.Block        // those of them that are writing commits, as these stand
	stands  map[uint64][]stand // of each cell that was written, rising
}

// look takes a history apart, if it is one here.
func look(first []uint64, h []api.Event) (*past, api.Odd) {
	if len(first) == 0 || len(first) > api.MaxCells {
		return nil, api.Odd{At: -1, Err: api.ErrArg}
	}
	tries, odd := events.Tries(h)
	if odd.Err != api.OK {
		return nil, odd
	}
	p := &past{first: first, tries: tries, stands: map[uint64][]stand{}}
	if at := slices.IndexFunc(h, isPlain); at >= 0 {
		return nil, api.Odd{At: at, Err: api.ErrPlain}
	}
	if at := slices.IndexFunc(h, p.misses); at >= 0 {
		return nil, api.Odd{At: at, Err: api.ErrRange}
	}
	p.blocks, _ = witness.Blocks(h)
	p.settle()
	return p, odd
}

// isPlain tells whether an event is a plain access.
func isPlain(e api.Event) bool { return e.Kind == api.Loaded || e.Kind == api.Stored }

// misses tells whether an event is a Read or a Write of no cell.
func (p *past) misses(e api.Event) bool {
	return (e.Kind == api.Read || e.Kind == api.Write) && !p.has(e.Addr)
}

// has tells whether an address is of a cell.
func (p *past) has(addr uint64) bool { return addr < uint64(len(p.first)) }

// settle finds the writing commits, and lets them write one behind the other.
func (p *past) settle() {
	for _, b := range p.blocks {
		if b.Writing {
			p.writing = append(p.writing, b)
		}
	}
	slices.SortFunc(p.writing, func(a, b api.Block) int { return cmp.Compare(a.Last, b.Last) })
	for n, b := range p.writing {
		for _, w := range b.Writes {
			p.write(n+1, w)
		}
	}
}

// write lets a word stand in its cell from a number on. One that the same commit wrote there ahead of it stood behind no number.
func (p *past) write(number int, w api.Entry) {
	l := p.course(w.Addr)
	if last := &l[len(l)-1]; last.since == number {
		last.word = w.Word
		return
	}
	p.stands[w.Addr] = append(l, stand{since: number, word: w.Word})
}

// course is all words of a cell, one behind the other.
func (p *past) course(addr uint64) []stand {
	if l, written := p.stands[addr]; written {
		return l
	}
	return []stand{{word: p.first[addr]}}
}

// courseUpto is a cell's course up to a number.
func (p *past) courseUpto(addr uint64, number int) []stand {
	l := p.course(addr)
	end, _ := slices.BinarySearchFunc(l, number+1, func(s stand, n int) int { return cmp.Compare(s.since, n) })
	return l[:end]
}

// ahead is how many writing commits stand ahead of a place of the history.
func (p *past) ahead(place int) int {
	n, _ := slices.BinarySearchFunc(p.writing, place, func(b api.Block, at int) int { return cmp.Compare(b.Last, at) })
	return n
}

// sights is what all attempts have seen.
func (p *past) sights() []api.Sight {
	var l []api.Sight
	for n, t := range p.tries {
		s := api.Sight{Try: t, At: -1}
		s.From, s.Upto = p.ahead(s.First), p.ahead(s.Last+1)
		if at := p.together(s.From, s.Upto, seen(p.blocks[n])); len(at) > 0 {
			s.At = at[len(at)-1]
		}
		l = append(l, s)
	}
	return l
}

// seen is what an attempt has read.
func seen(b api.Block) []api.Cell {
	var l []api.Cell
	for _, r := range b.Reads {
		l = append(l, api.Cell{Addr: r.Addr, Word: r.Word})
	}
	return l
}

// together is the numbers from one to another one at which words stood together, rising.
func (p *past) together(from, upto int, words []api.Cell) []int {
	left := wholeSpan(from, upto)
	asked := map[uint64]uint64{} // a course that was gone along for each word that is asked of its cell would take long
words:
	for _, w := range words {
		if word, again := asked[w.Addr]; again {
			if word != w.Word {
				return nil
			}
			continue
		}
		asked[w.Addr] = w.Word
		end := upto + 1
		for _, s := range slices.Backward(p.courseUpto(w.Addr, upto)) {
			begin := max(s.since, from)
			if s.word != w.Word {
				left.strike(begin, end)
			}
			if begin == from {
				continue words
			}
			end = begin
		}
	}
	return left.numbers()
}

// never is what was read that stood behind no number.
func (p *past) never() []api.Cell {
	stood := p.stood()
	var l []api.Cell
	for _, b := range p.blocks {
		for _, w := range seen(b) {
			if _, has := stood[w]; !has && w.Word != p.first[w.Addr] {
				l = append(l, w)
			}
		}
	}
	slices.SortFunc(l, func(a, b api.Cell) int {
		return cmp.Or(cmp.Compare(a.Addr, b.Addr), cmp.Compare(a.Word, b.Word))
	})
	return slices.Compact(l)
}

// stood is all words that stood in cells that were written.
func (p *past) stood() map[api.Cell]struct{} {
	all := map[api.Cell]struct{}{}
	for addr, l := range p.stands {
		for _, s := range l {
			all[api.Cell{Addr: addr, Word: s.word}] = struct{}{}
		}
	}
	return all
}
