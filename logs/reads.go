package logs

import (
	"iter"

	"parley/api"
)

// Reads: a read log. An entry that stands in it is never written again, so walks and copies share the list with it instead of having lists of their own.
type Reads struct {
	// made tells a log that takes no entry from a zero one, which is as a nil one.
	made    bool
	most    int
	entries []api.Cell
}

// NewReads: P5.1.
func NewReads(most int) (*Reads, api.Errno) {
	if !mayTake(most) {
		return nil, api.ErrArg
	}
	return &Reads{made: true, most: most}, api.OK
}

// Add: P5.2.
func (r *Reads) Add(addr, word uint64) api.Errno {
	if !r.there() {
		return api.ErrNil
	}
	if len(r.entries) >= r.most {
		return api.ErrFull
	}
	r.entries = append(r.entries, api.Cell{Addr: addr, Word: word})
	return api.OK
}

// Len: P5.2.
func (r *Reads) Len() int { return len(r.handed()) }

// At: P5.2.
func (r *Reads) At(n int) (api.Cell, bool) { return at(r.handed(), n) }

// All: P5.2, P5.6.
func (r *Reads) All() iter.Seq2[int, api.Cell] { return walk(r.handed) }

// Stale: P5.2.
func (r *Reads) Stale(cells []uint64) (int, bool) {
	for place, entry := range r.All() {
		if entry.Addr >= uint64(len(cells)) || cells[entry.Addr] != entry.Word {
			return place, true
		}
	}
	return 0, false
}

// Cut: P5.2.
func (r *Reads) Cut(n int) api.Errno {
	if !r.there() {
		return api.ErrNil
	}
	if n < 0 || n > len(r.entries) {
		return api.ErrArg
	}
	// Without room behind it, for a walk or a copy may still have the entries that are cut off: the next Add goes elsewhere.
	r.entries = r.entries[:n:n]
	return api.OK
}

// Copy: P5.6.
func (r *Reads) Copy() *Reads {
	if !r.there() {
		return nil
	}
	return &Reads{made: true, most: r.most, entries: r.handed()}
}

// there tells a log of this package's calls from a nil and from a zero one.
func (r *Reads) there() bool { return r != nil && r.made }

// handed is the list as it is handed on: without the room behind it, which only this log's own Adds may fill.
func (r *Reads) handed() []api.Cell {
	if r == nil {
		return nil
	}
	n := len(r.entries)
	return r.entries[:n:n]
}
