// Package cells is layer 1: see shared/doc/01-cells.md.
package cells

import (
	"iter"

	"parley/api"
)

// The sum's first value, and what it is multiplied by for each byte.
const (
	sumStart  uint64 = 14695981039346656037
	sumFactor uint64 = 1099511628211
)

// Row: words in a row. One without words was made by no call of this package, and is as a nil one.
type Row struct {
	words    []uint64
	accesses uint64
}

// New: P1.1.
func New(n int) (*Row, api.Errno) {
	if n < 1 || n > api.MaxCells {
		return nil, api.ErrArg
	}
	return &Row{words: make([]uint64, n)}, api.OK
}

// Of: P1.1.
func Of(words ...uint64) (*Row, api.Errno) {
	if len(words) < 1 || len(words) > api.MaxCells {
		return nil, api.ErrArg
	}
	return &Row{words: clone(words)}, api.OK
}

// Len: P1.5.
func (r *Row) Len() int {
	if r == nil {
		return 0
	}
	return len(r.words)
}

// Has: P1.5.
func (r *Row) Has(addr uint64) bool { return addr < uint64(r.Len()) }

// Load: P1.2.
func (r *Row) Load(addr uint64) (uint64, api.Errno) {
	cell, err := r.access(addr)
	if err != api.OK {
		return 0, err
	}
	return *cell, api.OK
}

// Store: P1.2.
func (r *Row) Store(addr, word uint64) api.Errno {
	cell, err := r.access(addr)
	if err != api.OK {
		return err
	}
	*cell = word
	return api.OK
}

// Swap: P1.3.
func (r *Row) Swap(addr, old, word uint64) (bool, api.Errno) {
	cell, err := r.access(addr)
	if err != api.OK {
		return false, err
	}
	if *cell != old {
		return false, api.OK
	}
	*cell = word
	return true, api.OK
}

// Add: P1.3.
func (r *Row) Add(addr, word uint64) (uint64, api.Errno) {
	cell, err := r.access(addr)
	if err != api.OK {
		return 0, err
	}
	ahead := *cell
	*cell += word
	return ahead, api.OK
}

// Fill: P1.4.
func (r *Row) Fill(from uint64, words ...uint64) api.Errno {
	if !r.made() {
		return api.ErrNil
	}
	if len(words) == 0 {
		return api.OK
	}
	// Whether there is room is asked of what lies behind from: from and the count together might go round.
	if !r.Has(from) || len(words) > len(r.words[from:]) {
		return api.ErrRange
	}
	copy(r.words[from:], words)
	return api.OK
}

// Words: P1.5.
func (r *Row) Words() []uint64 {
	if !r.made() {
		return nil
	}
	return clone(r.words)
}

// Slice: P1.4.
func (r *Row) Slice(from, behind uint64) ([]uint64, api.Errno) {
	if !r.made() {
		return nil, api.ErrNil
	}
	if behind < from {
		return nil, api.ErrArg
	}
	if behind > uint64(r.Len()) {
		return nil, api.ErrRange
	}
	return clone(r.words[from:behind]), api.OK
}

// All: P1.5.
func (r *Row) All() iter.Seq2[uint64, uint64] {
	return func(yield func(uint64, uint64) bool) {
		// Each loop has words of its own, for the row may change while it runs.
		for addr, word := range r.Words() {
			if !yield(uint64(addr), word) {
				return
			}
		}
	}
}

// Sum: P1.5.
func (r *Row) Sum() uint64 {
	if !r.made() {
		return 0
	}
	sum := sumStart
	for _, word := range r.words {
		for range 8 {
			sum ^= word & 0xff
			sum *= sumFactor
			word >>= 8
		}
	}
	return sum
}

// Accesses: P1.5.
func (r *Row) Accesses() uint64 {
	if r == nil {
		return 0
	}
	return r.accesses
}

// Copy: P1.6.
func (r *Row) Copy() *Row {
	if !r.made() {
		return nil
	}
	return &Row{words: clone(r.words)}
}

// Same: P1.7.
func Same(a, b *Row) bool {
	if !a.made() || !b.made() || a.Len() != b.Len() {
		return false
	}
	for range apart(a, b) {
		return false
	}
	return true
}

// Differ: P1.7.
func Differ(a, b *Row) ([]api.Cell, api.Errno) {
	if !a.made() || !b.made() {
		return nil, api.ErrNil
	}
	if a.Len() != b.Len() {
		return nil, api.ErrArg
	}
	var cells []api.Cell
	for addr, word := range apart(a, b) {
		cells = append(cells, api.Cell{Addr: addr, Word: word})
	}
	return cells, api.OK
}

// made tells a row of this package's calls from a nil and from a zero one: those have a cell at least.
func (r *Row) made() bool { return r.Len() > 0 }

// access counts ahead of the look at the address, because a refused access is one, too.
func (r *Row) access(addr uint64) (*uint64, api.Errno) {
	if !r.made() {
		return nil, api.ErrNil
	}
	r.accesses++
	if !r.Has(addr) {
		return nil, api.ErrRange
	}
	return &r.words[addr], api.OK
}

// apart tells where two rows of one length differ, with b's words; neither may change meanwhile.
func apart(a, b *Row) iter.Seq2[uint64, uint64] {
	return func(yield func(uint64, uint64) bool) {
	rows:
		for addr, word := range b.words {
			if word == a.words[addr] {
				continue rows
			}
			if !yield(uint64(addr), word) {
				break rows
			}
		}
	}
}

// clone copies into memory of exactly that size, so that no answer has spare room.
func clone(words []uint64) []uint64 {
	out := make([]uint64, len(words))
	copy(out, words)
	return out
}
