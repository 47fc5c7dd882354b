package logs

import (
	"iter"
	"slices"

	"parley/api"
	"parley/index"
)

// Redo: a redo log.
type Redo struct {
	most    int
	entries []api.Cell
	// places finds an address's entry. A log without it was made by no call of this package, and is as a nil one.
	places *index.Table[int]
	// puts has each Put that was answered OK and is not taken back.
	puts []put
}

// put is what is needed to take a Put back: whether the entry came by it; if not, which one it was, and the word that was overwritten.
type put struct {
	came  bool
	place int
	word  uint64
}

// NewRedo: P5.1.
func NewRedo(most int) (*Redo, api.Errno) {
	if !mayTake(most) {
		return nil, api.ErrArg
	}
	return &Redo{most: most, places: index.New[int]()}, api.OK
}

// Put: P5.3.
func (w *Redo) Put(addr, word uint64) api.Errno {
	if !w.there() {
		return api.ErrNil
	}
	if place, has := w.places.Get(addr); has {
		entry := &w.entries[place]
		w.puts = append(w.puts, put{place: place, word: entry.Word})
		entry.Word = word
		return api.OK
	}
	if len(w.entries) >= w.most {
		return api.ErrFull
	}
	w.places.Put(addr, len(w.entries))
	w.entries = append(w.entries, api.Cell{Addr: addr, Word: word})
	w.puts = append(w.puts, put{came: true})
	return api.OK
}

// Get: P5.3.
func (w *Redo) Get(addr uint64) (uint64, bool) {
	if !w.there() {
		return 0, false
	}
	place, has := w.places.Get(addr)
	if !has {
		return 0, false
	}
	return w.entries[place].Word, true
}

// Len: P5.3.
func (w *Redo) Len() int {
	if w == nil {
		return 0
	}
	return len(w.entries)
}

// At: P5.3.
func (w *Redo) At(n int) (api.Cell, bool) {
	if w == nil {
		return api.Cell{}, false
	}
	return at(w.entries, n)
}

// All: P5.3, P5.6.
func (w *Redo) All() iter.Seq2[int, api.Cell] { return walk(w.handed) }

// Mark: P5.4.
func (w *Redo) Mark() int {
	if w == nil {
		return 0
	}
	return len(w.puts)
}

// Back: P5.4.
func (w *Redo) Back(mark int) api.Errno {
	if !w.there() {
		return api.ErrNil
	}
	if mark < 0 || mark > len(w.puts) {
		return api.ErrArg
	}
	for _, p := range slices.Backward(w.puts[mark:]) {
		w.takeBack(p)
	}
	w.puts = w.puts[:mark]
	return api.OK
}

// Over: P5.5.
func (w *Redo) Over(cells []uint64) ([]uint64, api.Errno) {
	if !w.there() {
		return nil, api.ErrNil
	}
	for _, entry := range w.entries {
		if entry.Addr >= uint64(len(cells)) {
			return nil, api.ErrRange
		}
	}
	over := make([]uint64, len(cells))
	copy(over, cells)
	for _, entry := range w.entries {
		over[entry.Addr] = entry.Word
	}
	return over, api.OK
}

// Copy: P5.6.
func (w *Redo) Copy() *Redo {
	if !w.there() {
		return nil
	}
	return &Redo{most: w.most, entries: w.handed(), places: w.places.Copy(), puts: slices.Clone(w.puts)}
}

// there tells a log of this package's calls from a nil and from a zero one.
func (w *Redo) there() bool { return w != nil && w.places != nil }

// handed is a list of the entries for others to keep: a new one, because Put and Back write into the log's own.
func (w *Redo) handed() []api.Cell {
	if w == nil {
		return nil
	}
	return slices.Clone(w.entries)
}

// takeBack takes the last Put back: an entry that came by it is the last one, for those behind it were taken back ahead of it.
func (w *Redo) takeBack(p put) {
	if !p.came {
		w.entries[p.place].Word = p.word
		return
	}
	last := len(w.entries) - 1
	w.places.Take(w.entries[last].Addr)
	w.entries = w.entries[:last]
}
