package room

import (
	"fmt"
	"slices"
	"testing"

	"parley/api"
)

// piece is cells that were taken, with the words that were written into them since.
type piece struct {
	addr  uint64
	words []uint64
}

// ward is a room that is used as P20.5 says: what is out, what was given back, and how much was never taken, as plain data.
type ward struct {
	b            *book
	at, from, to uint64
	next         uint64
	out          []piece
	back         [Most + 1][]uint64 // by sizes: the last one last
	ink          drawn              // what is written into pieces
}

func newWard(t *testing.T, at, from, to uint64) *ward {
	t.Helper()
	w := &ward{b: open(words{}), at: at, from: from, to: to, next: from, ink: 5}
	if err := Lay(w.b, at, from, to); err != api.OK {
		t.Fatal(err)
	}
	w.whole(t)
	return w
}

// whole asks the room what it has, and what is out for its words.
func (w *ward) whole(t *testing.T) {
	t.Helper()
	if got, err := Left(w.b, w.at); got != w.to-w.next || err != api.OK {
		t.Fatalf("Left answers %d, %v, not %d", got, err, w.to-w.next)
	}
	for size := uint64(1); size <= Most; size++ {
		want := slices.Clone(w.back[size])
		slices.Reverse(want)
		if got, err := Given(w.b, w.at, size); !slices.Equal(got, want) || err != api.OK {
			t.Fatalf("Given(%d) answers %v, %v, not %v", size, got, err, want)
		}
	}
	for _, p := range w.out {
		for n, word := range p.words {
			if got := w.b.words[p.addr+uint64(n)]; got != word {
				t.Fatalf("the piece %v has %d at %d", p, got, n)
			}
		}
	}
}

// scribble writes words into all cells of a piece, those among them that a room's cells have.
func (w *ward) scribble(p piece) {
	likely := []uint64{0, 1, top, w.at, w.at + 2, w.from, w.from + 1, w.to, p.addr, p.addr + 1}
	for n := range p.words {
		p.words[n] = w.ink.next()
		if k := w.ink.below(len(likely) + 1); k < len(likely) {
			p.words[n] = likely[k]
		}
		w.b.words.set(p.addr+uint64(n), p.words[n])
	}
}

// take takes a piece, and asks whether that had to go well, and which one it had to be.
func (w *ward) take(t *testing.T, size uint64) {
	t.Helper()
	left, _ := Left(w.b, w.at)
	given, _ := Given(w.b, w.at, size)
	addr, err := Take(w.b, w.at, size)
	if err == api.ErrRoom && addr == 0 && left < size && len(given) == 0 {
		w.whole(t)
		return
	}
	if err != api.OK {
		t.Fatalf("Take(%d) answers %d, %v: %d are left, %v were given back", size, addr, err, left, given)
	}
	if n := len(w.back[size]); n > 0 {
		if addr != w.back[size][n-1] {
			t.Fatalf("Take(%d) answers %d: %v were given back", size, addr, w.back[size])
		}
		w.back[size] = w.back[size][:n-1]
	} else {
		if addr != w.next {
			t.Fatalf("Take(%d) answers %d, not %d", size, addr, w.next)
		}
		w.next += size
	}
	p := piece{addr: addr, words: make([]uint64, size)}
	w.apart(t, p)
	w.out = append(w.out, p)
	w.scribble(p)
	w.whole(t)
}

// apart asks whether a piece lies in the room, and has no cell in common with another one.
func (w *ward) apart(t *testing.T, p piece) {
	t.Helper()
	size := uint64(len(p.words))
	if p.addr < w.from || p.addr >= w.to || w.to-p.addr < size {
		t.Fatalf("the piece %v is not from %d on up to below %d", p, w.from, w.to)
	}
	for _, q := range w.out {
		if p.addr-q.addr < uint64(len(q.words)) || q.addr-p.addr < size {
			t.Fatalf("the pieces %v and %v have a cell in common", p, q)
		}
	}
}

// give gives the piece of that place back.
func (w *ward) give(t *testing.T, n int) {
	t.Helper()
	p := w.out[n]
	if err := Give(w.b, w.at, p.addr, uint64(len(p.words))); err != api.OK {
		t.Fatalf("Give(%d) answers %v", p.addr, err)
	}
	w.out = slices.Delete(w.out, n, n+1)
	w.back[len(p.words)] = append(w.back[len(p.words)], p.addr)
	w.whole(t)
}

// rooms is where rooms are laid: their header and their cells are apart.
var rooms = []struct{ at, from, to uint64 }{
	{0, 18, 118},
	{0, 18, 18},
	{0, 40, 41},
	{200, 0, 200},
	{1000, 3, 20},
	{1 << 40, 7, 300},
	{0, top - 150, top},
	{top - 17, 0, 90},
	{top - 8, 9, 100},
	{top, 17, 77},
	{top - 40, top - 22, top},
	{5, 1<<63 - 60, 1<<63 + 60},
}

// P20.5: pieces taken and given back in drawn orders.
func TestDrawnOrders(t *testing.T) {
	for n, r := range rooms {
		for most := uint64(1); most <= Most; most += 5 {
			t.Run(fmt.Sprint(n, " ", most), func(t *testing.T) {
				d := drawn(100*uint64(n) + most)
				w := newWard(t, r.at, r.from, r.to)
				for range 600 {
					if len(w.out) > 0 && d.below(9) < 4 {
						w.give(t, d.below(len(w.out)))
					} else {
						w.take(t, 1+d.next()%most)
					}
					if len(w.out) > 0 {
						w.scribble(w.out[d.below(len(w.out))])
					}
				}
			})
		}
	}
}

// P20.5: all orders of some takes and gives, in small rooms.
func TestAllSmallOrders(t *testing.T) {
	const steps = 6
	for cells := uint64(0); cells <= 5; cells++ {
		for code := range 6 * 6 * 6 * 6 * 6 * 6 {
			w := newWard(t, 30, 2, 2+cells)
			for range steps {
				switch k := code % 6; {
				case k < 3:
					w.take(t, uint64(k)+1)
				case len(w.out) == 0:
				case k == 3:
					w.give(t, 0)
				case k == 4:
					w.give(t, len(w.out)-1)
				default:
					w.give(t, len(w.out)/2)
				}
				code /= 6
			}
		}
	}
}

// P20.5: a room is taken to its last cell, given back whole, and taken again: the last one that was given back first.
func TestAWholeRoom(t *testing.T) {
	for size := uint64(1); size <= Most; size++ {
		for extra := uint64(0); extra < size; extra++ {
			w := newWard(t, 0, 18, 18+5*size+extra)
			for round := range 3 {
				for range 6 {
					w.take(t, size)
				}
				if len(w.out) != 5 {
					t.Fatalf("of %d cells %d pieces of %d are taken", w.to-w.from, len(w.out), size)
				}
				for len(w.out) > 0 {
					w.give(t, round%2*(len(w.out)-1))
				}
			}
		}
	}
}

// P20.5: two rooms over the same cells: what is done with one changes nothing of the other one.
func TestTwoRooms(t *testing.T) {
	d := drawn(8)
	one := newWard(t, 0, 40, 140)
	two := &ward{b: one.b, at: 20, from: 140, to: 260, next: 140, ink: 9}
	if err := Lay(two.b, two.at, two.from, two.to); err != api.OK {
		t.Fatal(err)
	}
	for range 800 {
		w, other := one, two
		if d.below(2) == 0 {
			w, other = two, one
		}
		if len(w.out) > 0 && d.below(2) == 0 {
			w.give(t, d.below(len(w.out)))
		} else {
			w.take(t, 1+d.next()%6)
		}
		other.whole(t)
	}
}

// P20.5 by a tx that says no now and then: the block is given up, and the same call is made anew.
func TestBlocksThatAreGivenUp(t *testing.T) {
	d := drawn(12)
	w := newWard(t, 0, 18, 90)
	for range 500 {
		kept := w.b.words.behind(nil)
		w.b.trace, w.b.no, w.b.err = nil, d.below(4), api.ErrStale
		size := 1 + d.next()%5
		if _, err := Take(w.b, 0, size); err != api.ErrStale && err != api.OK && err != api.ErrRoom {
			t.Fatal(err)
		}
		w.b.trace, w.b.no, w.b.words = nil, -1, kept
		w.whole(t)
		w.take(t, size)
		if len(w.out) > 6 {
			w.give(t, d.below(len(w.out)))
			w.give(t, d.below(len(w.out)))
		}
	}
}
