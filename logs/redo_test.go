package logs

import (
	"math"
	"slices"
	"testing"

	"parley/api"
)

// got asks for the word of an address that is there.
func got(t *testing.T, w *Redo, addr, want uint64) {
	t.Helper()
	if word, ok := w.Get(addr); word != want || !ok {
		t.Fatalf("Get(%d) is %d, %v, not %d", addr, word, ok, want)
	}
}

// none asks that addresses are not there.
func none(t *testing.T, w *Redo, addrs ...uint64) {
	t.Helper()
	for _, addr := range addrs {
		if word, ok := w.Get(addr); word != 0 || ok {
			t.Fatalf("Get(%d) is %d, %v", addr, word, ok)
		}
	}
}

// marked asks how many Puts there are.
func marked(t *testing.T, w *Redo, mark int) {
	t.Helper()
	if w.Mark() != mark {
		t.Fatalf("Mark is %d, not %d", w.Mark(), mark)
	}
}

// puts is a model of a redo log: the Puts that were answered OK, one behind the other.
type puts []api.Cell

// entries follows the chapter's words: of one address the last word, in the order of the first Puts.
func (p puts) entries() []api.Cell {
	var entries []api.Cell
	for _, put := range p {
		same := func(entry api.Cell) bool { return entry.Addr == put.Addr }
		if n := slices.IndexFunc(entries, same); n >= 0 {
			entries[n] = put
		} else {
			entries = append(entries, put)
		}
	}
	return entries
}

// same holds a redo log against its model, in all that it answers; its addresses are below 40.
func same(t *testing.T, w *Redo, p puts) {
	t.Helper()
	entries := p.entries()
	has(t, w, entries...)
	marked(t, w, len(p))
	words := make([]uint64, 40)
	for n := range words {
		words[n] = top
	}
	var left []uint64
	for addr := range uint64(40) {
		left = append(left, addr)
	}
	for _, entry := range entries {
		got(t, w, entry.Addr, entry.Word)
		words[entry.Addr] = entry.Word
		left = slices.DeleteFunc(left, func(addr uint64) bool { return addr == entry.Addr })
	}
	none(t, w, left...)
	over, err := w.Over(slices.Repeat([]uint64{top}, 40))
	if !slices.Equal(over, words) || err != api.OK {
		t.Fatalf("Over is %v, %v, not %v", over, err, words)
	}
}

func TestPut(t *testing.T) { // P5.3
	w := redo(t, 3)
	none(t, w, 0, 5, top)
	for _, c := range []struct {
		addr, word uint64
		err        api.Errno
		then       []api.Cell
	}{
		{5, 1, api.OK, cells(5, 1)},
		{0, 0, api.OK, cells(5, 1, 0, 0)},
		{5, 2, api.OK, cells(5, 2, 0, 0)},
		{5, 2, api.OK, cells(5, 2, 0, 0)},
		{top, top, api.OK, cells(5, 2, 0, 0, top, top)},
		{7, 1, api.ErrFull, cells(5, 2, 0, 0, top, top)},
		{0, 9, api.OK, cells(5, 2, 0, 9, top, top)},
		{top, 0, api.OK, cells(5, 2, 0, 9, top, 0)},
		{6, 0, api.ErrFull, cells(5, 2, 0, 9, top, 0)},
		{5, top, api.OK, cells(5, top, 0, 9, top, 0)},
	} {
		errno(t, "Put", w.Put(c.addr, c.word), c.err)
		has(t, w, c.then...)
		for _, entry := range c.then {
			got(t, w, entry.Addr, entry.Word)
		}
		none(t, w, 1, 6, 7, top-1, 1<<32, 1<<32|5)
	}
}

func TestMark(t *testing.T) { // P5.4
	w := redo(t, 2)
	marked(t, w, 0)
	for _, c := range []struct {
		what       string
		addr, word uint64
		err        api.Errno
		mark       int
	}{
		{"a new one", 5, 1, api.OK, 1},
		{"another word", 5, 2, api.OK, 2},
		{"the same word", 5, 2, api.OK, 3},
		{"the last one that has room", 6, 1, api.OK, 4},
		{"one without room", 7, 1, api.ErrFull, 4},
		{"another word, without room for others", 6, 3, api.OK, 5},
		{"one without room again", 7, 1, api.ErrFull, 5},
	} {
		if err := w.Put(c.addr, c.word); err != c.err || w.Mark() != c.mark {
			t.Fatalf("%s: %v, and Mark is %d, not %d", c.what, err, w.Mark(), c.mark)
		}
	}
	errno(t, "Back", w.Back(2), api.OK)
	marked(t, w, 2)
	errno(t, "Put", w.Put(6, 6), api.OK)
	marked(t, w, 3)
}

func TestBack(t *testing.T) { // P5.4
	all := puts(cells(5, 1, 6, 2, 5, 3, 5, 3, 7, 0, 6, 9, 7, 7, 5, 4))
	for mark := range len(all) + 1 {
		w := redo(t, 3, all...)
		errno(t, "one without room", w.Put(8, 8), api.ErrFull)
		for _, bad := range []int{math.MinInt, -1, len(all) + 1, math.MaxInt} {
			errno(t, "Back", w.Back(bad), api.ErrArg)
			same(t, w, all)
		}
		errno(t, "Back", w.Back(mark), api.OK)
		same(t, w, all[:mark])
		errno(t, "Back to where it is", w.Back(mark), api.OK)
		same(t, w, all[:mark])
		errno(t, "Back to what was taken back", w.Back(mark+1), api.ErrArg)
		same(t, w, all[:mark])
		// Step by step to the beginning, each time as it was.
		for step := mark - 1; step >= 0; step-- {
			errno(t, "Back", w.Back(step), api.OK)
			same(t, w, all[:step])
		}
		errno(t, "Back of nothing", w.Back(-1), api.ErrArg)
	}
}

func TestPutBehindBack(t *testing.T) { // P5.4, P5.7: what is put again comes as if the others had never been.
	first, then := puts(cells(5, 1, 6, 2, 5, 3, 7, 4)), puts(cells(7, 1, 6, 8, 5, 9, 6, 5))
	for mark := range len(first) + 1 {
		w := redo(t, 3, first...)
		errno(t, "Back", w.Back(mark), api.OK)
		now := slices.Clone(first[:mark])
		for _, put := range then {
			errno(t, "Put", w.Put(put.Addr, put.Word), api.OK)
			now = append(now, put)
			same(t, w, now)
		}
		errno(t, "a fourth address", w.Put(8, 1), api.ErrFull)
		for ; len(now) > 0; now = now[:len(now)-1] {
			errno(t, "Back", w.Back(len(now)), api.OK)
			same(t, w, now)
		}
	}
}

func TestBackMakesRoom(t *testing.T) { // P5.4
	w := redo(t, 2, cells(1, 1, 2, 2)...)
	errno(t, "Put", w.Put(3, 3), api.ErrFull)
	errno(t, "Back", w.Back(1), api.OK)
	errno(t, "Put", w.Put(3, 3), api.OK)
	errno(t, "Put", w.Put(2, 2), api.ErrFull)
	same(t, w, puts(cells(1, 1, 3, 3)))
	errno(t, "Back(0)", w.Back(0), api.OK)
	same(t, w, nil)
	errno(t, "Put", w.Put(2, 5), api.OK)
	errno(t, "Put", w.Put(1, 6), api.OK)
	errno(t, "Put", w.Put(3, 3), api.ErrFull)
	same(t, w, puts(cells(2, 5, 1, 6)))
}

func TestOver(t *testing.T) { // P5.5
	for _, c := range []struct {
		what        string
		puts        []api.Cell
		cells, over []uint64
		err         api.Errno
	}{
		{"no entry", nil, []uint64{4, 5}, []uint64{4, 5}, api.OK},
		{"no entry, no cell", nil, nil, nil, api.OK},
		{"no entry, an empty list", nil, []uint64{}, nil, api.OK},
		{"some", cells(2, 9, 0, 8), []uint64{4, 5, 6, 7}, []uint64{8, 5, 9, 7}, api.OK},
		{"the last word of an address", cells(1, 9, 0, 8, 1, 7), []uint64{4, 5}, []uint64{8, 7}, api.OK},
		{"the last cell", cells(1, 0), []uint64{4, 5}, []uint64{4, 0}, api.OK},
		{"the number of cells", cells(0, 1, 2, 9), []uint64{4, 5}, nil, api.ErrRange},
		{"the number of cells, spare room behind", cells(2, 9), []uint64{4, 5, 6}[:2], nil, api.ErrRange},
		{"above the number of cells", cells(0, 1, 3, 9, 1, 1), []uint64{4, 5}, nil, api.ErrRange},
		{"the greatest address", cells(top, 0), []uint64{4, 5}, nil, api.ErrRange},
		{"an address whose lower half is a cell's", cells(1<<32, 0), []uint64{4, 5}, nil, api.ErrRange},
		{"the first one is of no cell", cells(9, 1, 0, 1), []uint64{4, 5}, nil, api.ErrRange},
		{"no cells", cells(0, 1), nil, nil, api.ErrRange},
		{"an empty list", cells(0, 1), []uint64{}, nil, api.ErrRange},
	} {
		w := redo(t, 9, c.puts...)
		kept := slices.Clone(c.cells)
		for range 2 {
			over, err := w.Over(c.cells)
			if !slices.Equal(over, c.over) || err != c.err {
				t.Errorf("%s: Over is %v, %v", c.what, over, err)
			}
			if err != api.OK && over != nil {
				t.Errorf("%s: a list beside an error", c.what)
			}
			if !slices.Equal(c.cells, kept) {
				t.Errorf("%s: the cells are %v", c.what, c.cells)
			}
		}
		has(t, w, puts(c.puts).entries()...)
	}
}

func TestOverIsNewMemory(t *testing.T) { // P5.5
	for _, entries := range [][]api.Cell{nil, cells(1, 9)} {
		w := redo(t, 9, entries...)
		room := []uint64{4, 5, 6, 7, 8}
		given := room[:3]
		over, _ := w.Over(given)
		other, _ := w.Over(given)
		want := slices.Clone(other)
		for n := range over[:cap(over)] {
			over[:cap(over)][n] = 100
		}
		if !slices.Equal(room, []uint64{4, 5, 6, 7, 8}) || !slices.Equal(other, want) {
			t.Errorf("a change of an answer changes %v, %v", room, other)
		}
		given[0] = 50
		if !slices.Equal(other, want) {
			t.Errorf("a change of what was handed in changes %v", other)
		}
	}
}

func TestRedoWalkOfWhatWas(t *testing.T) { // P5.6
	was := cells(5, 1, 6, 2, 7, 3)
	for _, c := range []struct {
		what   string
		change func(w *Redo)
		then   []api.Cell
	}{
		{"put others", func(w *Redo) { w.Put(uint64(10+w.Len()), 9) }, cells(5, 1, 6, 2, 7, 3, 13, 9, 14, 9, 15, 9)},
		{"put again", func(w *Redo) { w.Put(5, 9); w.Put(6, 9); w.Put(7, 9) }, cells(5, 9, 6, 9, 7, 9)},
		{"take one back", func(w *Redo) { w.Back(w.Mark() - 1) }, nil},
		{"take all back", func(w *Redo) { w.Back(0) }, nil},
		{"take back and put", func(w *Redo) { w.Back(1); w.Put(8, 8); w.Put(6, 6); w.Put(8, 0) }, cells(5, 1, 8, 0, 6, 6)},
		{"take all back and put", func(w *Redo) { w.Back(0); w.Put(7, 7); w.Put(6, 6); w.Put(5, 5) }, cells(7, 7, 6, 6, 5, 5)},
	} {
		w := redo(t, 9, was...)
		all := w.All()
		var seen []api.Cell
		for _, entry := range all {
			seen = append(seen, entry)
			c.change(w)
		}
		if !slices.Equal(seen, was) {
			t.Errorf("%s: a walk tells %v", c.what, seen)
		}
		has(t, w, c.then...)
		// Gone over again it begins again.
		if again := told(t, all); !slices.Equal(again, c.then) {
			t.Errorf("%s: gone over again it tells %v, not %v", c.what, again, c.then)
		}
	}
}

func TestRedoWalkBehindBack(t *testing.T) { // P5.6: a Back under way gives a changed word back to the log, not to the walk.
	w := redo(t, 9, cells(5, 1, 6, 2, 6, 3)...)
	var seen []api.Cell
	for _, entry := range w.All() {
		seen = append(seen, entry)
		errno(t, "Back", w.Back(2), api.OK)
	}
	if !slices.Equal(seen, cells(5, 1, 6, 3)) {
		t.Errorf("a walk tells %v", seen)
	}
	has(t, w, cells(5, 1, 6, 2)...)
}

func TestRedoCopy(t *testing.T) { // P5.6
	e := redo(t, 2)
	c := e.Copy()
	same(t, c, nil)
	errno(t, "Put", c.Put(1, 1), api.OK)
	same(t, e, nil)
	errno(t, "Put", e.Put(2, 2), api.OK)
	same(t, c, puts(cells(1, 1)))
	same(t, e, puts(cells(2, 2)))

	all := puts(cells(5, 1, 6, 2, 5, 3, 7, 4, 6, 5))
	for mark := range len(all) + 1 {
		w := redo(t, 4, all...)
		c, d := w.Copy(), w.Copy()
		same(t, c, all)
		// The copy has the marks, too.
		errno(t, "the copy's Back", c.Back(mark), api.OK)
		same(t, c, all[:mark])
		same(t, w, all)
		errno(t, "the copy's Put", c.Put(5, 30), api.OK)
		errno(t, "the copy's Put", c.Put(8, 31), api.OK)
		same(t, c, slices.Concat(all[:mark], puts(cells(5, 30, 8, 31))))
		same(t, w, all)
		errno(t, "the log's Put", w.Put(6, 40), api.OK)
		errno(t, "the log's Put", w.Put(9, 41), api.OK)
		errno(t, "the log's Put", w.Put(10, 42), api.ErrFull)
		same(t, w, slices.Concat(all, puts(cells(6, 40, 9, 41))))
		errno(t, "the log's Back", w.Back(1), api.OK)
		same(t, w, all[:1])
		errno(t, "the log's Put", w.Put(11, 43), api.OK)
		same(t, c, slices.Concat(all[:mark], puts(cells(5, 30, 8, 31))))
		errno(t, "the copy's Back", c.Back(0), api.OK)
		same(t, c, nil)
		same(t, d, all)
	}
	full := redo(t, 1, cells(1, 1)...).Copy()
	errno(t, "a full log's copy", full.Put(2, 2), api.ErrFull)
	errno(t, "a full log's copy", full.Put(1, 2), api.OK)
}

func TestRedoDrawn(t *testing.T) { // P5.3, P5.4, P5.6: many logs that come from one another, each held against a model of its own.
	var d drawn
	logs, models := []*Redo{redo(t, 20)}, []puts{nil}
	for range 4000 {
		n := d.below(len(logs))
		w, p := logs[n], models[n]
		switch what := d.below(16); {
		case what < 12:
			put := api.Cell{Addr: d.next() % 40, Word: d.next()}
			_, there := w.Get(put.Addr)
			err := w.Put(put.Addr, put.Word)
			if !there && len(p.entries()) == 20 {
				errno(t, "Put", err, api.ErrFull)
			} else {
				errno(t, "Put", err, api.OK)
				models[n] = slices.Concat(p, puts{put})
			}
		case what < 14:
			// Mostly to a mark close by, so that logs become long.
			mark := len(p) + 1 - d.below(8)
			if d.below(10) == 0 {
				mark = d.below(len(p)+1) - 1
			}
			err := w.Back(mark)
			if mark < 0 || mark > len(p) {
				errno(t, "Back", err, api.ErrArg)
			} else {
				errno(t, "Back", err, api.OK)
				models[n] = slices.Clone(p[:mark])
			}
		default:
			to := d.below(4)
			for len(logs) <= to {
				logs, models = append(logs, redo(t, 20)), append(models, nil)
			}
			logs[to], models[to] = w.Copy(), slices.Clone(p)
		}
		for n, w := range logs {
			same(t, w, models[n])
		}
	}
}

func TestOverAndOver(t *testing.T) { // P5.7: of two logs, one over the other, the later one's words stand.
	var d drawn
	for range 100 {
		first, second, both := redo(t, 40), redo(t, 40), redo(t, 40)
		words := make([]uint64, 40)
		for n := range words {
			words[n] = d.next()
		}
		for _, w := range []*Redo{first, second} {
			for range d.below(60) {
				addr, word := d.next()%40, d.next()
				errno(t, "Put", w.Put(addr, word), api.OK)
				errno(t, "Put", both.Put(addr, word), api.OK)
			}
		}
		one, _ := first.Over(words)
		two, _ := second.Over(one)
		for addr, word := range two {
			want := words[addr]
			for _, w := range []*Redo{first, second} {
				if put, ok := w.Get(uint64(addr)); ok {
					want = put
				}
			}
			if word != want {
				t.Fatalf("the cell %d is %d, not %d", addr, word, want)
			}
		}
		if at, _ := both.Over(words); !slices.Equal(at, two) {
			t.Fatalf("one log of all is %v, not %v", at, two)
		}
	}
}

func TestBackToNothing(t *testing.T) { // P5.7
	const many = 3000
	w := redo(t, many)
	for n := range uint64(3 * many) {
		errno(t, "Put", w.Put(n*7%many, n), api.OK)
	}
	marked(t, w, 3*many)
	errno(t, "Back(0)", w.Back(0), api.OK)
	has(t, w)
	marked(t, w, 0)
	for n := range uint64(many) {
		none(t, w, n)
	}
	if over, err := w.Over(nil); len(over) != 0 || err != api.OK {
		t.Errorf("Over is %v, %v", over, err)
	}
	for n := range uint64(many) {
		errno(t, "Put", w.Put(many-n, n), api.OK)
		if entry, ok := w.At(int(n)); entry != (api.Cell{Addr: many - n, Word: n}) || !ok {
			t.Fatalf("At(%d) is %v, %v", n, entry, ok)
		}
	}
	errno(t, "Put", w.Put(0, 0), api.ErrFull)
}
