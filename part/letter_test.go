package part

import (
	"fmt"
	"maps"
	"slices"
	"testing"

	"parley/api"
	rooms "parley/room"
)

// letter is what a call answers and which accesses it makes, by the chapter's words, over cells that change as it goes.
type letter struct {
	cells words
	trace []access
}

func (l *letter) get(addr uint64) uint64 {
	l.trace = append(l.trace, get(addr))
	return l.cells[addr]
}

func (l *letter) put(addr, word uint64) {
	l.trace = append(l.trace, sets(addr, word))
	l.cells.set(addr, word)
}

// goes goes over a part's nodes: of each its word is loaded, then something is done, then its next one is loaded.
func (l *letter) goes(p api.Part, does func(node, word uint64)) api.Errno {
	if p.Kind < 1 || p.Kind > 2 {
		return api.ErrArg
	}
	if p.Count > api.MaxCells {
		return api.ErrPart
	}
	next := p.First
	for n := uint64(0); n < p.Count; n++ {
		if next == 0 {
			return api.ErrPart
		}
		does(next-1, l.get(next-1))
		next = l.get(next)
	}
	if next != 0 {
		return api.ErrPart
	}
	return api.OK
}

func (l *letter) read(p api.Part) answer {
	var list []uint64
	err := l.goes(p, func(_, word uint64) { list = append(list, word) })
	if err != api.OK {
		return wrong(err)
	}
	return answer{list: text(list)}
}

func (l *letter) turn(p api.Part, f func(uint64) uint64) answer {
	return answer{err: l.goes(p, func(node, word uint64) { l.put(node, f(word)) })}
}

func (l *letter) give(room uint64, p api.Part) answer {
	var nodes []uint64
	if err := l.goes(p, func(node, _ uint64) { nodes = append(nodes, node) }); err != api.OK {
		return wrong(err)
	}
	for _, node := range nodes {
		l.put(node, l.get(room+3))
		l.put(room+3, node+1)
	}
	return nothing
}

// back is what Back answers, and the cells behind it; of its own accesses to the queue nothing is said.
func (l *letter) back(q uint64, p api.Part) answer {
	if p.Kind != 1 {
		return wrong(api.ErrArg)
	}
	if l.cells[q] != 0 || l.cells[q+2] != 0 {
		return wrong(api.ErrArg)
	}
	last := uint64(0)
	if err := l.goes(p, func(node, _ uint64) { last = node + 1 }); err != api.OK {
		return wrong(err)
	}
	if last != 0 {
		l.put(q, p.First)
		l.put(q+1, last)
		l.put(q+2, p.Count)
	}
	return nothing
}

// follows asks all calls of a part for just what the chapter says.
func follows(t *testing.T, w words, room, q uint64, p api.Part) {
	t.Helper()
	for _, r := range []struct {
		name   string
		c      call
		letter func(l *letter) answer
	}{
		{"Read", reads(p), func(l *letter) answer { return l.read(p) }},
		{"Turn", turns(p, flips), func(l *letter) answer { return l.turn(p, flips) }},
		{"Turn to one less", turns(p, less), func(l *letter) answer { return l.turn(p, less) }},
		{"Give", gives(room, p), func(l *letter) answer { return l.give(room, p) }},
		{"Back", lays(q, p), func(l *letter) answer { return l.back(q, p) }},
	} {
		l := &letter{cells: w.behind(nil)}
		want := r.letter(l)
		b := open(w)
		if got := r.c(b); got != want {
			t.Fatalf("%s of %v over %v answers %v, not %v", r.name, p, w, got, want)
		}
		if !maps.Equal(b.words, l.cells) {
			t.Fatalf("%s of %v over %v: the cells are %v, not %v", r.name, p, w, b.words, l.cells)
		}
		if r.name != "Back" && !slices.Equal(b.trace, l.trace) {
			t.Fatalf("%s of %v over %v goes by %v, not by %v", r.name, p, w, b.trace, l.trace)
		}
		if r.name == "Back" && want.err != api.OK && b.puts() > 0 {
			t.Fatalf("%s of %v over %v has put %v", r.name, p, w, b.trace)
		}
	}
}

func less(word uint64) uint64 { return word - 1 }

// All chains of three nodes, wherever they lead, by any small count.
func TestAllChainsOfThreeNodes(t *testing.T) {
	leads := []uint64{0, 21, 23, 25}
	for _, kind := range kinds {
		held := 0
		for code := range 4 * 4 * 4 * 4 * 6 {
			w := words{20: 5, 22: 7, 24: 5}
			p := api.Part{Kind: kind, First: leads[code%4], Count: uint64(code / 256)}
			for n, rest := uint64(0), code/4; n < 3; n++ {
				w.set(21+2*n, leads[rest%4])
				rest /= 4
			}
			follows(t, w, 0, 40, p)
			if reads(p)(open(w)).err == api.OK {
				held++
			}
		}
		// None: 64 ways for the nodes to lead. One: 3 nodes, 16 ways. Two: 6 orders, 4 ways. Three: 6 orders.
		if want := 64 + 3*16 + 6*4 + 6; held != want {
			t.Errorf("%d parts hold together, not %d", held, want)
		}
	}
}

// All parts over four cells, whose nodes have cells in common, and which may be those of the room and the queue, too.
func TestAllPartsOverFewCells(t *testing.T) {
	for code := range 5 * 5 * 5 * 5 * 5 * 5 {
		w, rest := words{}, code
		for addr := range uint64(4) {
			w.set(addr, uint64(rest%5))
			rest /= 5
		}
		p := api.Part{Kind: kinds[code%2], First: uint64(rest % 5), Count: uint64(rest / 5)}
		follows(t, w, far, 100, p)
		// The room's head is a cell of the four.
		l := &letter{cells: w.behind(nil)}
		want := l.give(top-1, p)
		if b := open(w); gives(top-1, p)(b) != want || !slices.Equal(b.trace, l.trace) {
			t.Fatalf("Give of %v over %v goes by %v, not by %v", p, w, b.trace, l.trace)
		}
	}
}

// Any parts over any cells.
func TestAnyCells(t *testing.T) {
	edges := []uint64{0, 1, 2, 17, 19, 20, 40, api.MaxCells - 1, api.MaxCells, api.MaxCells + 1, 1 << 32, 1 << 63, top - 2, top - 1, top}
	d := drawn(26)
	edge := func() uint64 {
		if d.below(3) > 0 {
			return uint64(d.below(12))
		}
		return edges[d.below(len(edges))]
	}
	for range 30000 {
		w := words{}
		for range d.below(30) {
			w.set(edge(), edge())
		}
		p := api.Part{Kind: api.PartKind(d.below(5)), First: edge(), Count: edge()}
		if p.Count > 20 && p.Count <= api.MaxCells {
			p.Count = uint64(d.below(20))
		}
		follows(t, w, edge(), edge(), p)
		for name, c := range map[string]call{"Queue": takesQueue(edge()), "List": takesList(edge())} {
			b := open(w)
			if got := c(b); got.err != api.OK || len(b.trace) > 6 {
				t.Fatalf("%s over %v answers %v behind %v", name, w, got, b.trace)
			}
		}
	}
}

// Long chains, made of pieces that a room had, in any order.
func TestLongChains(t *testing.T) {
	d := drawn(3)
	for _, many := range []int{10, 100, 1000, 5000} {
		b := open(words{})
		rooms.Lay(b, far, 1000, 1000+2*uint64(many))
		var nodes, had []uint64
		for range many {
			node, _ := rooms.Take(b, far, 2)
			nodes, had = append(nodes, node), append(had, d.next())
		}
		for n := range nodes {
			m := d.below(many)
			nodes[n], nodes[m] = nodes[m], nodes[n]
		}
		for _, kind := range kinds {
			t.Run(fmt.Sprint(kind, " ", many), func(t *testing.T) {
				w, p := chained(kind, nodes, had)
				w = w.with(b.words)
				if got := reads(p)(open(w)); got != (answer{list: text(had)}) {
					t.Errorf("answers another list, %v", got.err)
				}
				follows(t, w, far, 100, p)
			})
		}
	}
}
