package rank

import (
	"parley/api"
	numbers "parley/word"
)

// What a heap's cells have, from its first one on, and how many they are.
const (
	countAt uint64 = iota
	rootAt
	heapCells
)

// What a node's cells have, from its first one on, and how many they are.
const (
	keyAt uint64 = iota
	wordAt
	leftAt
	rightAt
	rankAt
	nodeCells
)

// none is the word of a cell that leads to no node: others have a node's address, plus 1.
const none uint64 = 0

// nodeOf is the address of the node to which a word leads.
func nodeOf(to uint64) uint64 { return to - 1 }

// get gets as many words as there is place for, from a cell on.
func get(tx api.Tx, addr uint64, into []uint64) api.Errno {
	for n := range into {
		word, err := tx.Get(addr + uint64(n))
		if err != api.OK {
			return err
		}
		into[n] = word
	}
	return api.OK
}

// put puts words, from a cell on.
func put(tx api.Tx, addr uint64, list ...uint64) api.Errno {
	for n, word := range list {
		if err := tx.Put(addr+uint64(n), word); err != api.OK {
			return err
		}
	}
	return api.OK
}

// change puts those words that are others than they were, from a cell on: what stays as it was makes no block of others look again.
func change(tx api.Tx, addr uint64, were, are []uint64) api.Errno {
	for n, word := range are {
		if word == were[n] {
			continue
		}
		if err := tx.Put(addr+uint64(n), word); err != api.OK {
			return err
		}
	}
	return api.OK
}

// heap is a heap's own cells, as they were got.
type heap [heapCells]uint64

// heapAt gets a heap's own cells.
func heapAt(tx api.Tx, h uint64) (heap, api.Errno) {
	var had heap
	if err := get(tx, h, had[:]); err != api.OK {
		return heap{}, err
	}
	if (had[countAt] == 0) != (had[rootAt] == none) {
		return heap{}, api.ErrHeap
	}
	return had, api.OK
}

// become lets a heap have this count and this root from now on.
func (had heap) become(tx api.Tx, h, count, root uint64) api.Errno {
	return change(tx, h, had[:], []uint64{countAt: count, rootAt: root})
}

// ranked is an entry by its two words.
func ranked(key, word uint64) (api.Ranked, api.Errno) {
	number, ok := numbers.Real(key)
	if !ok {
		return api.Ranked{}, api.ErrHeap
	}
	return api.Ranked{Key: number, Word: word}, api.OK
}
