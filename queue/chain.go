package queue

import (
	"math"

	"parley/api"
)

// What a queue's cells have, from its first one on, and how many they are.
const (
	firstAt uint64 = iota
	lastAt
	countAt
	queueCells
)

// What a node's cells have, from its first one on, and how many they are.
const (
	wordAt uint64 = iota
	nextAt
	nodeCells
)

// none is the word of a cell that leads to no node: others have a node's address, plus 1.
const none uint64 = 0

// What one word more, and one fewer, add to a count: sums go round.
const (
	oneMore  uint64 = 1
	oneFewer uint64 = math.MaxUint64
)

// nodeOf is the address of the node to which a word leads.
func nodeOf(to uint64) uint64 { return to - 1 }

// leadsTo is the word that leads to a node.
func leadsTo(node uint64) uint64 { return node + 1 }

// get gets as many words as there is place for, from a cell on.
func get(tx api.Tx, addr uint64, into []uint64) api.Errno {
	for n := range into {
		word, err := tx.Get(addr + uint64(n))
		if err != api.OK {
			return err
		}
		into[n] = word
	}
	return api.OK
}

// put puts words, from a cell on.
func put(tx api.Tx, addr uint64, words ...uint64) api.Errno {
	for n, word := range words {
		if err := tx.Put(addr+uint64(n), word); err != api.OK {
			return err
		}
	}
	return api.OK
}

// hang lets the last node lead to this one, or the queue itself, if it has none; and the queue know it as its last.
func hang(tx api.Tx, q, node uint64) api.Errno {
	last, err := tx.Get(q + lastAt)
	if err != api.OK {
		return err
	}
	link := q + firstAt
	if last != none {
		link = nodeOf(last) + nextAt
	}
	if err = tx.Put(link, leadsTo(node)); err != api.OK {
		return err
	}
	return tx.Put(q+lastAt, leadsTo(node))
}

// unhang lets a queue begin with what its first node leads to.
func unhang(tx api.Tx, q, next uint64) api.Errno {
	err := tx.Put(q+firstAt, next)
	if err == api.OK && next == none {
		err = tx.Put(q+lastAt, none)
	}
	return err
}

// recount adds to a queue's count.
func recount(tx api.Tx, q, more uint64) api.Errno {
	count, err := tx.Get(q + countAt)
	if err != api.OK {
		return err
	}
	return tx.Put(q+countAt, count+more)
}

// spot is a node of a chain: its address and its word.
type spot struct{ node, word uint64 }

// chain tells the nodes of a queue that is whole. That it is not whole is told as soon as it shows, and not asked of cells that need not be there; the count bounds chains that go round.
func chain(tx api.Tx, q uint64) ([]spot, api.Errno) {
	var own [queueCells]uint64
	if err := get(tx, q, own[:]); err != api.OK {
		return nil, err
	}
	left := own[countAt]
	if left > api.MaxCells {
		return nil, api.ErrQueue
	}
	var spots []spot
	at, to := none, own[firstAt]
nodes:
	for {
		switch {
		case to == none:
			break nodes
		case left == 0, (to == own[lastAt]) != (left == 1):
			return nil, api.ErrQueue
		}
		var node [nodeCells]uint64
		if err := get(tx, nodeOf(to), node[:]); err != api.OK {
			return nil, err
		}
		spots = append(spots, spot{nodeOf(to), node[wordAt]})
		at, to = to, node[nextAt]
		left--
	}
	if left > 0 || at != own[lastAt] {
		return nil, api.ErrQueue
	}
	return spots, api.OK
}
