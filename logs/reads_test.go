package logs

import (
	"math"
	"slices"
	"testing"

	"parley/api"
)

func TestAdd(t *testing.T) { // P5.2
	r := reads(t, 5)
	entries := cells(5, 1, 0, 0, 5, 1, 5, 2, top, top)
	for n, entry := range entries {
		errno(t, "Add", r.Add(entry.Addr, entry.Word), api.OK)
		has(t, r, entries[:n+1]...)
	}
	errno(t, "one more", r.Add(1, 1), api.ErrFull)
	errno(t, "one that is there", r.Add(5, 1), api.ErrFull)
	has(t, r, entries...)
}

func TestStale(t *testing.T) { // P5.2
	for _, c := range []struct {
		what    string
		entries []api.Cell
		cells   []uint64
		place   int
		stale   bool
	}{
		{"no entry", nil, []uint64{1, 2}, 0, false},
		{"no entry, no cell", nil, nil, 0, false},
		{"all as they were", cells(1, 8, 0, 7, 1, 8, 2, 9), []uint64{7, 8, 9}, 0, false},
		{"other cells do not matter", cells(1, 8), []uint64{1, 8, 3}, 0, false},
		{"the first one is another word", cells(0, 7, 1, 8), []uint64{6, 8}, 0, true},
		{"the last one is another word", cells(0, 7, 1, 8), []uint64{7, 9}, 1, true},
		{"several: the first one of them", cells(2, 9, 0, 7, 1, 8, 2, 1), []uint64{6, 6, 9}, 1, true},
		{"by places, not by addresses", cells(2, 9, 0, 7), []uint64{6, 6, 6}, 0, true},
		{"one address with two words", cells(0, 7, 0, 6), []uint64{7}, 1, true},
		{"the last cell's address", cells(2, 9), []uint64{7, 8, 9}, 0, false},
		{"the number of cells", cells(2, 9, 3, 0), []uint64{7, 8, 9}, 1, true},
		{"the number of cells, spare room behind", cells(2, 9, 3, 0), []uint64{7, 8, 9, 0}[:3], 1, true},
		{"above the number of cells", cells(0, 7, 4, 0), []uint64{7, 8, 9}, 1, true},
		{"the greatest address", cells(top, 0), []uint64{7, 8, 9}, 0, true},
		{"an address whose lower half is a cell's", cells(1<<32, 7), []uint64{7}, 0, true},
		{"a word whose lower half is the cell's", cells(0, 1<<32|7), []uint64{7}, 0, true},
		{"of no cells each", cells(0, 0, 1, 1), nil, 0, true},
		{"of an empty list of cells", cells(0, 0), []uint64{}, 0, true},
		{"another word behind, no cell ahead", cells(0, 7, 9, 0, 1, 1), []uint64{7, 8}, 1, true},
	} {
		r := reads(t, 9, c.entries...)
		kept := slices.Clone(c.cells)
		for range 2 {
			if place, stale := r.Stale(c.cells); place != c.place || stale != c.stale {
				t.Errorf("%s: Stale is %d, %v", c.what, place, stale)
			}
		}
		if !slices.Equal(c.cells, kept) {
			t.Errorf("%s: the cells are %v", c.what, c.cells)
		}
		has(t, r, c.entries...)
	}
}

func TestCut(t *testing.T) { // P5.2
	entries := cells(5, 1, 6, 2, 7, 3)
	for n := 0; n <= len(entries); n++ {
		r := reads(t, 3, entries...)
		for _, bad := range []int{math.MinInt, -4, -1, 4, 5, math.MaxInt} {
			errno(t, "Cut", r.Cut(bad), api.ErrArg)
			has(t, r, entries...)
		}
		errno(t, "Cut", r.Cut(n), api.OK)
		has(t, r, entries[:n]...)
		errno(t, "Cut at what Len was", r.Cut(n+1), api.ErrArg)
		// As many as were cut off, and no more, have room again.
		want := slices.Clone(entries[:n])
		for add := range uint64(3 - n) {
			errno(t, "Add behind a Cut", r.Add(9, add), api.OK)
			want = append(want, api.Cell{Addr: 9, Word: add})
			has(t, r, want...)
		}
		errno(t, "one more", r.Add(9, 9), api.ErrFull)
		has(t, r, want...)
	}
	r := reads(t, 3)
	errno(t, "Cut(0) of an empty log", r.Cut(0), api.OK)
	errno(t, "Cut(1) of an empty log", r.Cut(1), api.ErrArg)
	has(t, r)
}

func TestReadsWalkOfWhatWas(t *testing.T) { // P5.6
	was := cells(5, 1, 6, 2, 7, 3)
	for _, c := range []struct {
		what   string
		change func(r *Reads)
		then   []api.Cell
	}{
		{"add", func(r *Reads) { r.Add(9, 9) }, cells(5, 1, 6, 2, 7, 3, 9, 9, 9, 9, 9, 9)},
		{"cut one", func(r *Reads) { r.Cut(r.Len() - 1) }, nil},
		{"cut all", func(r *Reads) { r.Cut(0) }, nil},
		{"cut and add", func(r *Reads) { r.Cut(1); r.Add(9, 9); r.Add(8, 8) }, cells(5, 1, 9, 9, 8, 8)},
		{"cut all and add", func(r *Reads) { r.Cut(0); r.Add(9, 9) }, cells(9, 9)},
		{"cut nothing and add", func(r *Reads) { r.Cut(r.Len()); r.Add(9, 9) }, cells(5, 1, 6, 2, 7, 3, 9, 9, 9, 9, 9, 9)},
	} {
		r := reads(t, 9, was...)
		all := r.All()
		var seen []api.Cell
		for _, entry := range all {
			seen = append(seen, entry)
			c.change(r)
		}
		if !slices.Equal(seen, was) {
			t.Errorf("%s: a walk tells %v", c.what, seen)
		}
		has(t, r, c.then...)
		// Gone over again it begins again.
		if again := told(t, all); !slices.Equal(again, c.then) {
			t.Errorf("%s: gone over again it tells %v, not %v", c.what, again, c.then)
		}
	}
}

func TestReadsWalkWithinAWalk(t *testing.T) { // P5.6
	r := reads(t, 9, cells(1, 1, 2, 2)...)
	var outer, inner []api.Cell
	for _, entry := range r.All() {
		outer = append(outer, entry)
		for _, entry := range r.All() {
			inner = append(inner, entry)
			r.Cut(1)
			r.Add(entry.Addr+10, 3)
		}
	}
	if !slices.Equal(outer, cells(1, 1, 2, 2)) || !slices.Equal(inner, cells(1, 1, 2, 2, 1, 1, 12, 3)) {
		t.Errorf("the outer walk tells %v, the inner ones %v", outer, inner)
	}
	has(t, r, cells(1, 1, 22, 3)...)
}

func TestReadsCopy(t *testing.T) { // P5.6
	e := reads(t, 2)
	c := e.Copy()
	has(t, c)
	errno(t, "Add", c.Add(1, 1), api.OK)
	has(t, e)
	errno(t, "Add", e.Add(2, 2), api.OK)
	has(t, c, cells(1, 1)...)

	// From each length on, lest it be by luck that no room is behind the entries.
	for n := range uint64(20) {
		r := reads(t, 20)
		var entries []api.Cell
		for addr := range n {
			errno(t, "Add", r.Add(addr, addr), api.OK)
			entries = append(entries, api.Cell{Addr: addr, Word: addr})
		}
		c, d := r.Copy(), r.Copy()
		errno(t, "the log's Add", r.Add(100, 1), api.OK)
		errno(t, "a copy's Add", c.Add(200, 2), api.OK)
		has(t, d, entries...)
		has(t, r, slices.Concat(entries, cells(100, 1))...)
		has(t, c, slices.Concat(entries, cells(200, 2))...)
		errno(t, "Cut", c.Cut(int(n/2)), api.OK)
		errno(t, "Add", c.Add(300, 3), api.OK)
		errno(t, "Cut", r.Cut(int(n/3)), api.OK)
		errno(t, "Add", r.Add(400, 4), api.OK)
		has(t, d, entries...)
		has(t, c, slices.Concat(entries[:n/2], cells(300, 3))...)
		has(t, r, slices.Concat(entries[:n/3], cells(400, 4))...)
	}
	full := reads(t, 1, cells(1, 1)...).Copy()
	errno(t, "a full log's copy", full.Add(2, 2), api.ErrFull)
}

func TestReadsDrawn(t *testing.T) { // P5.2, P5.6: many logs that come from one another, each held against a list of its own.
	var d drawn
	logs, lists := []*Reads{reads(t, 12)}, [][]api.Cell{nil}
	for range 4000 {
		n := d.below(len(logs))
		r, list := logs[n], lists[n]
		switch what := d.below(8); {
		case what < 5:
			entry := api.Cell{Addr: d.next() % 6, Word: d.next() % 3}
			err := r.Add(entry.Addr, entry.Word)
			if len(list) == 12 {
				errno(t, "Add", err, api.ErrFull)
			} else {
				errno(t, "Add", err, api.OK)
				lists[n] = slices.Concat(list, []api.Cell{entry})
			}
		case what == 5:
			at := d.below(15) - 1
			err := r.Cut(at)
			if at < 0 || at > len(list) {
				errno(t, "Cut", err, api.ErrArg)
			} else {
				errno(t, "Cut", err, api.OK)
				lists[n] = slices.Clone(list[:at])
			}
		default:
			to := d.below(6)
			for len(logs) <= to {
				logs, lists = append(logs, reads(t, 12)), append(lists, nil)
			}
			logs[to], lists[to] = r.Copy(), slices.Clone(list)
		}
		for n, r := range logs {
			has(t, r, lists[n]...)
		}
	}
}

func TestWhatWasReadIsNotStale(t *testing.T) { // P5.7
	var d drawn
	words := make([]uint64, 40)
	for n := range words {
		words[n] = d.next()
	}
	r := reads(t, 100)
	for range 100 {
		addr := d.next() % 40
		errno(t, "Add", r.Add(addr, words[addr]), api.OK)
		if place, stale := r.Stale(words); place != 0 || stale {
			t.Fatalf("Stale is %d, %v", place, stale)
		}
	}
	// Of each cell that was read a change is found, at the first entry of its address.
	for addr := range words {
		first := -1
		for place, entry := range r.All() {
			if entry.Addr == uint64(addr) {
				first = place
				break
			}
		}
		words[addr]++
		if place, stale := r.Stale(words); stale != (first >= 0) || place != max(first, 0) {
			t.Errorf("the cell %d: Stale is %d, %v, not %d", addr, place, stale, first)
		}
		words[addr]--
	}
}
