package rank

import (
	"fmt"
	"math/bits"
	"testing"

	"parley/api"
	rooms "parley/room"
)

// row is a tx over words in a row, that counts how often it is asked.
type row struct {
	words      []uint64
	gets, puts int
}

func (r *row) Get(addr uint64) (uint64, api.Errno) {
	r.gets++
	if addr >= uint64(len(r.words)) {
		return 0, api.ErrRange
	}
	return r.words[addr], api.OK
}

func (r *row) Put(addr, word uint64) api.Errno {
	r.puts++
	if addr >= uint64(len(r.words)) {
		return api.ErrRange
	}
	r.words[addr] = word
	return api.OK
}

// fill lays a heap of so many entries at h, whose nodes stand in their order from a node on, each two children behind it: so to the right there are as many nodes as can be. Its numbers are even ones, or odd ones.
func (r *row) fill(h, from uint64, many int, odd bool) {
	r.words[h], r.words[h+1] = uint64(many), 0
	to := func(n int) uint64 {
		if n >= many {
			return 0
		}
		return from + 5*uint64(n) + 1
	}
	if many > 0 {
		r.words[h+1] = to(0)
	}
	for n := many - 1; n >= 0; n-- {
		key := float64(2 * n)
		if odd {
			key++
		}
		rank := uint64(1)
		if right := to(2*n + 2); right != 0 {
			rank = r.words[right-1+4] + 1
		}
		copy(r.words[to(n)-1:], []uint64{of(key, 0).key, 0, to(2*n + 1), to(2*n + 2), rank})
	}
}

// full is a row with a room at 0, and two heaps of so many entries at 18 and 20.
func full(many, others int) *row {
	end := 22 + 5*uint64(many+others)
	r := &row{words: make([]uint64, end+5)}
	rooms.Lay(r, 0, end, end+5)
	r.fill(18, 22, many, false)
	r.fill(20, 22+5*uint64(many), others, true)
	r.gets, r.puts = 0, 0
	return r
}

// P24.5: a Push, Pop or Join gets at most 64 cells for each binary digit of how many entries there are, and 64 more; it puts no more, either.
func TestAccesses(t *testing.T) {
	few := func(t *testing.T, r *row, entries int, err api.Errno) {
		t.Helper()
		most := 64*bits.Len(uint(entries)) + 64
		if err != api.OK || r.gets > most || r.puts > most {
			t.Errorf("of %d entries: %v behind %d gets and %d puts", entries, err, r.gets, r.puts)
		}
	}
	for _, many := range []int{0, 1, 2, 3, 4, 6, 7, 8, 15, 100, 1000, 1023, 1024, 20000, 1<<16 - 1, 1 << 16} {
		for _, key := range []float64{-1, 0, 1, float64(many), float64(many)*2 - 3, inf, nan} {
			r := full(many, 0)
			few(t, r, many, Push(r, 0, 18, key, 5))
		}
		r := full(many, 0)
		for range min(many, 200) {
			r.gets, r.puts = 0, 0
			entries := int(r.words[18])
			_, _, err := Pop(r, 0, 18)
			few(t, r, entries, err)
		}
		for _, others := range []int{0, 1, 7, 1000, many} {
			r := full(many, others)
			few(t, r, many+others, Join(r, 18, 20))
			r = full(many, others)
			few(t, r, many+others, Join(r, 20, 18))
		}
	}
}

// P24.5: so it is of heaps that came by calls, in whatever order their entries came.
func TestAccessesOfManyCalls(t *testing.T) {
	const many = 4000
	for name, key := range map[string]func(n int) float64{
		"rising":  func(n int) float64 { return float64(n) },
		"falling": func(n int) float64 { return float64(-n) },
		"one":     func(int) float64 { return 1 },
		"to and fro": func(n int) float64 {
			if n%2 == 0 {
				return float64(n)
			}
			return float64(-n)
		},
		"mixed": func(n int) float64 { return float64(n * 7919 % many) },
	} {
		r := &row{words: make([]uint64, 22+5*many)}
		rooms.Lay(r, 0, 18, uint64(len(r.words)))
		h, _ := New(r, 0)
		g, _ := New(r, 0)
		for n := range many {
			r.gets, r.puts = 0, 0
			to := h
			if n%3 == 0 {
				to = g
			}
			if err := Push(r, 0, to, key(n), uint64(n)); err != api.OK {
				t.Fatal(err)
			}
			bound(t, name, r, r.words[to])
			if n%500 == 499 {
				r.gets, r.puts = 0, 0
				if err := Join(r, h, g); err != api.OK {
					t.Fatal(err)
				}
				bound(t, name, r, r.words[h])
			}
		}
		for n := range many {
			r.gets, r.puts = 0, 0
			if _, has, err := Pop(r, 0, h); !has || err != api.OK {
				t.Fatal(n, has, err)
			}
			bound(t, name, r, r.words[h]+1)
		}
	}
}

// bound asks how often a row was asked by one call on so many entries.
func bound(t *testing.T, name string, r *row, entries uint64) {
	t.Helper()
	if most := 64*bits.Len64(entries) + 64; r.gets > most || r.puts > most {
		t.Errorf("%s: of %d entries by %d gets and %d puts", name, entries, r.gets, r.puts)
	}
}

// First and Len go by a few gets, however many entries there are.
func TestWhoLooksAtTheFirst(t *testing.T) {
	for _, many := range []int{0, 1, 2, 1000, 20000} {
		for name, c := range map[string]call{"First": firstOf(18), "Len": length(18)} {
			r := full(many, 0)
			if got := c(r); got.err != api.OK || r.gets > 4 || r.puts > 0 {
				t.Errorf("%s of %d entries: %v behind %d gets", name, many, got, r.gets)
			}
		}
	}
}

// P24.5: who only looks, Pop of no entry, Join of a heap without entries, Clear of one put nothing; First, Len and All of no heap.
func TestWhoOnlyLooks(t *testing.T) {
	for _, s := range splits {
		for n, list := range rows {
			w, h, g := both(place{0, 18, 200}, s, list, nil)
			calls := map[string]call{"First": firstOf(h), "Len": length(h), "All": allOf(h), "Join": joins(h, g), "Pop": pop(0, g), "Clear": clearAll(0, g), "First of none": firstOf(g), "All of none": allOf(g)}
			for name, c := range calls {
				b := open(w)
				if got := c(b); got.err != api.OK || b.puts() > 0 {
					t.Errorf("%s of the heap %s: %v behind %v", name, fmt.Sprint(n), got, b.trace)
				}
			}
		}
	}
}
