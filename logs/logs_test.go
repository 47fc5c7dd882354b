package logs

import (
	"iter"
	"math"
	"slices"
	"testing"

	"parley/api"
)

const top = math.MaxUint64

// drawn is a row of numbers that looks drawn, and is the same each time.
type drawn uint64

func (d *drawn) next() uint64 {
	*d = *d*6364136223846793005 + 1442695040888963407
	return uint64(*d >> 33)
}

// below is a number from 0 to n - 1.
func (d *drawn) below(n int) int { return int(d.next() % uint64(n)) }

// log is what both logs answer of their entries.
type log interface {
	Len() int
	At(n int) (api.Cell, bool)
	All() iter.Seq2[int, api.Cell]
}

// cells makes entries of addresses and words by turns.
func cells(pairs ...uint64) []api.Cell {
	var entries []api.Cell
	for pair := range slices.Chunk(pairs, 2) {
		entries = append(entries, api.Cell{Addr: pair[0], Word: pair[1]})
	}
	return entries
}

// told goes over a walk, and asks that its places are 0, 1, and so on.
func told(t *testing.T, all iter.Seq2[int, api.Cell]) []api.Cell {
	t.Helper()
	var entries []api.Cell
	for place, entry := range all {
		if place != len(entries) {
			t.Fatalf("a walk tells the place %d behind %v", place, entries)
		}
		entries = append(entries, entry)
	}
	return entries
}

// has asks for all entries of a log, by Len, At and All.
func has(t *testing.T, l log, entries ...api.Cell) {
	t.Helper()
	if l.Len() != len(entries) {
		t.Fatalf("Len is %d, not %d", l.Len(), len(entries))
	}
	if got := told(t, l.All()); !slices.Equal(got, entries) {
		t.Fatalf("All tells %v, not %v", got, entries)
	}
	for place, want := range entries {
		if entry, ok := l.At(place); entry != want || !ok {
			t.Fatalf("At(%d) is %v, %v, not %v", place, entry, ok, want)
		}
	}
	for _, place := range []int{math.MinInt, -len(entries) - 1, -2, -1, len(entries), len(entries) + 1, 2*len(entries) + 1, math.MaxInt} {
		if entry, ok := l.At(place); entry != (api.Cell{}) || ok {
			t.Fatalf("At(%d) of %d entries is %v, %v", place, len(entries), entry, ok)
		}
	}
}

// errno asks for an error.
func errno(t *testing.T, what string, got, want api.Errno) {
	t.Helper()
	if got != want {
		t.Fatalf("%s answers %v, not %v", what, got, want)
	}
}

// reads makes a read log that takes so many entries, with these.
func reads(t *testing.T, most int, entries ...api.Cell) *Reads {
	t.Helper()
	r, err := NewReads(most)
	if r == nil || err != api.OK {
		t.Fatalf("NewReads(%d) is %v, %v", most, r, err)
	}
	for _, entry := range entries {
		errno(t, "Add", r.Add(entry.Addr, entry.Word), api.OK)
	}
	return r
}

// redo makes a redo log that takes so many entries, into which these are put.
func redo(t *testing.T, most int, entries ...api.Cell) *Redo {
	t.Helper()
	w, err := NewRedo(most)
	if w == nil || err != api.OK {
		t.Fatalf("NewRedo(%d) is %v, %v", most, w, err)
	}
	for _, entry := range entries {
		errno(t, "Put", w.Put(entry.Addr, entry.Word), api.OK)
	}
	return w
}

func TestNewRefuses(t *testing.T) { // P5.1
	for _, most := range []int{math.MinInt, -1 << 20, -2, -1, 1<<20 + 1, 1 << 21, math.MaxInt} {
		if r, err := NewReads(most); r != nil || err != api.ErrArg {
			t.Errorf("NewReads(%d) is %v, %v", most, r, err)
		}
		if w, err := NewRedo(most); w != nil || err != api.ErrArg {
			t.Errorf("NewRedo(%d) is %v, %v", most, w, err)
		}
	}
}

func TestNewTakesSoMany(t *testing.T) { // P5.1
	for _, most := range []int{0, 1, 2, 3, 1024, 1<<20 - 1, 1 << 20} {
		r, w := reads(t, most), redo(t, most)
		has(t, r)
		has(t, w)
		for n := range uint64(most) {
			if r.Add(n, n+1) != api.OK || w.Put(n*3, n) != api.OK {
				t.Fatalf("of %d entries the one at %d is refused", most, n)
			}
		}
		for range 2 {
			errno(t, "Add", r.Add(top, 1), api.ErrFull)
			errno(t, "Put", w.Put(top, 1), api.ErrFull)
		}
		if r.Len() != most || w.Len() != most || w.Mark() != most {
			t.Errorf("of %d entries: %d, %d, %d", most, r.Len(), w.Len(), w.Mark())
		}
	}
}

func TestNoEntryAtAll(t *testing.T) { // P5.1: a log that takes no entry is there all the same.
	r := reads(t, 0)
	errno(t, "Add", r.Add(0, 0), api.ErrFull)
	errno(t, "Cut(0)", r.Cut(0), api.OK)
	errno(t, "Cut(1)", r.Cut(1), api.ErrArg)
	if place, stale := r.Stale(nil); place != 0 || stale {
		t.Errorf("Stale is %d, %v", place, stale)
	}
	c := r.Copy()
	if c == nil {
		t.Fatal("no copy")
	}
	errno(t, "the copy's Add", c.Add(0, 0), api.ErrFull)
	has(t, r)
	has(t, c)

	w := redo(t, 0)
	errno(t, "Put", w.Put(0, 0), api.ErrFull)
	errno(t, "Back(0)", w.Back(0), api.OK)
	errno(t, "Back(1)", w.Back(1), api.ErrArg)
	if over, err := w.Over([]uint64{4}); !slices.Equal(over, []uint64{4}) || err != api.OK {
		t.Errorf("Over is %v, %v", over, err)
	}
	v := w.Copy()
	if v == nil {
		t.Fatal("no copy")
	}
	errno(t, "the copy's Put", v.Put(0, 0), api.ErrFull)
	has(t, w)
	has(t, v)
}

func TestNilReads(t *testing.T) { // P5.6
	refused, _ := NewReads(-1)
	for what, r := range map[string]*Reads{"nil": nil, "refused": refused, "zero": {}} {
		t.Run(what, func(t *testing.T) {
			errno(t, "Add", r.Add(1, 2), api.ErrNil)
			for _, n := range []int{-1, 0, 1} {
				errno(t, "Cut", r.Cut(n), api.ErrNil)
			}
			if place, stale := r.Stale([]uint64{1}); place != 0 || stale {
				t.Errorf("Stale is %d, %v", place, stale)
			}
			if place, stale := r.Stale(nil); place != 0 || stale {
				t.Errorf("Stale of no cells is %d, %v", place, stale)
			}
			if c := r.Copy(); c != nil {
				t.Errorf("Copy is %v", c)
			}
			if r.All() == nil {
				t.Fatal("there is no walk")
			}
			has(t, r)
		})
	}
}

func TestNilRedo(t *testing.T) { // P5.6
	refused, _ := NewRedo(1<<20 + 1)
	for what, w := range map[string]*Redo{"nil": nil, "refused": refused, "zero": {}} {
		t.Run(what, func(t *testing.T) {
			errno(t, "Put", w.Put(1, 2), api.ErrNil)
			for _, mark := range []int{-1, 0, 1} {
				errno(t, "Back", w.Back(mark), api.ErrNil)
			}
			if word, ok := w.Get(1); word != 0 || ok {
				t.Errorf("Get is %d, %v", word, ok)
			}
			if w.Mark() != 0 {
				t.Errorf("Mark is %d", w.Mark())
			}
			for _, cells := range [][]uint64{nil, {}, {1, 2}} {
				if over, err := w.Over(cells); over != nil || err != api.ErrNil {
					t.Errorf("Over is %v, %v", over, err)
				}
			}
			if v := w.Copy(); v != nil {
				t.Errorf("Copy is %v", v)
			}
			if w.All() == nil {
				t.Fatal("there is no walk")
			}
			has(t, w)
		})
	}
}

// leave goes over so many entries of a walk.
func leave(all iter.Seq2[int, api.Cell], most int) []api.Cell {
	var entries []api.Cell
	for _, entry := range all {
		if entries = append(entries, entry); len(entries) == most {
			break
		}
	}
	return entries
}

func TestWalksLeftAndAgain(t *testing.T) { // P5.6
	entries := cells(5, 1, top, 2, 0, 0, 7, top)
	for what, l := range map[string]log{"reads": reads(t, 9, entries...), "redo": redo(t, 9, entries...)} {
		all := l.All()
		for range 2 {
			for most := 1; most <= len(entries); most++ {
				if got := leave(all, most); !slices.Equal(got, entries[:most]) {
					t.Errorf("%s: left behind %d: %v", what, most, got)
				}
			}
		}
		for range all {
			if got := told(t, all); !slices.Equal(got, entries) {
				t.Errorf("%s: a walk within itself tells %v", what, got)
			}
		}
	}
}

func TestExamples(t *testing.T) {
	r, err := NewReads(-1)
	if r != nil || err != api.ErrArg {
		t.Errorf("NewReads(-1) is %v, %v", r, err)
	}
	w, err := NewRedo(1048577)
	if w != nil || err != api.ErrArg {
		t.Errorf("NewRedo(1048577) is %v, %v", w, err)
	}

	r = reads(t, 2)
	errno(t, "Add(5, 1)", r.Add(5, 1), api.OK)
	errno(t, "Add(5, 1)", r.Add(5, 1), api.OK)
	errno(t, "Add(6, 2)", r.Add(6, 2), api.ErrFull)
	has(t, r, cells(5, 1, 5, 1)...)
	for _, c := range []struct {
		cells []uint64
		stale bool
	}{{[]uint64{0, 0, 0, 0, 0, 1}, false}, {[]uint64{0, 0, 0, 0, 0, 2}, true}, {make([]uint64, 5), true}} {
		if place, stale := r.Stale(c.cells); place != 0 || stale != c.stale {
			t.Errorf("Stale(%v) is %d, %v", c.cells, place, stale)
		}
	}

	w = redo(t, 2)
	errno(t, "Put(5, 1)", w.Put(5, 1), api.OK)
	errno(t, "Put(6, 2)", w.Put(6, 2), api.OK)
	marked(t, w, 2)
	errno(t, "Put(5, 3)", w.Put(5, 3), api.OK)
	errno(t, "Put(7, 4)", w.Put(7, 4), api.ErrFull)
	marked(t, w, 3)
	got(t, w, 5, 3)
	has(t, w, cells(5, 3, 6, 2)...)
	errno(t, "Back(2)", w.Back(2), api.OK)
	got(t, w, 5, 1)
	errno(t, "Back(1)", w.Back(1), api.OK)
	has(t, w, cells(5, 1)...)
	errno(t, "Back(2)", w.Back(2), api.ErrArg)
	if over, err := w.Over([]uint64{0, 0, 0, 0, 0, 9}); !slices.Equal(over, []uint64{0, 0, 0, 0, 0, 1}) || err != api.OK {
		t.Errorf("Over is %v, %v", over, err)
	}
	if over, err := w.Over(nil); over != nil || err != api.ErrRange {
		t.Errorf("Over of none is %v, %v", over, err)
	}
}
