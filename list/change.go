package list

import (
	"math"

	"parley/api"
	rooms "parley/room"
)

// What one key more, and one fewer, add to a count: sums go round.
const (
	oneMore  uint64 = 1
	oneFewer uint64 = math.MaxUint64
)

// empty makes cells a list without keys.
func empty(tx api.Tx, l uint64) api.Errno {
	if err := tx.Put(l, 0); err != api.OK {
		return err
	}
	return tx.Put(leads(l), none)
}

// hang puts a node with a key between the cell that leads to a spot and what is there.
func hang(tx api.Tx, at spot, node, key uint64) api.Errno {
	err := tx.Put(node, key)
	if err == api.OK {
		err = tx.Put(leads(node), at.next)
	}
	if err == api.OK {
		err = tx.Put(at.link, node+1)
	}
	return err
}

// unhang lets the cell that leads to a spot lead to what is behind its node.
func unhang(tx api.Tx, at spot) api.Errno {
	next, err := tx.Get(leads(at.node()))
	if err != api.OK {
		return err
	}
	return tx.Put(at.link, next)
}

// recount adds to a list's count.
func recount(tx api.Tx, l, more uint64) api.Errno {
	count, err := tx.Get(l)
	if err != api.OK {
		return err
	}
	return tx.Put(l, count+more)
}

// giveNodes gives the nodes of a list back, and tells how many they are. All of them are found ahead of the first put: what is given back has other words in it, and a list that is not sound stays as it was.
func giveNodes(tx api.Tx, room, l uint64) (uint64, api.Errno) {
	spots, err := all(tx, l)
	if err != api.OK {
		return 0, err
	}
	for _, s := range spots {
		if err = rooms.Give(tx, room, s.node(), size); err != api.OK {
			return 0, err
		}
	}
	return uint64(len(spots)), api.OK
}
