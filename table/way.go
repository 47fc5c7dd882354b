package table

import (
	"parley/api"
	rooms "parley/room"
)

// end is where the way of a key ends: the cell that was got last, what was got, and the number of its digit. Of a leaf that is there also where it lies, and, if it was asked for that, its key.
type end struct {
	cell, word uint64
	digit      int
	what       kind
	leaf, key  uint64
}

// way goes from the header on to where the way of a key ends.
func way(tx api.Tx, at, key uint64) (end, api.Errno) {
	d := 0
next:
	cell := at + digit(key, d)
	word, err := tx.Get(cell)
	if err != api.OK {
		return end{}, err
	}
	what, where := within(word)
	if what != node {
		return end{cell: cell, word: word, digit: d, what: what, leaf: where}, api.OK
	}
	if d++; d == digits {
		return end{}, api.ErrDeep
	}
	at = where
	goto next
}

// reach goes to where the way of a key ends, and gets the key of the leaf that is there.
func reach(tx api.Tx, at, key uint64) (end, api.Errno) {
	e, err := way(tx, at, key)
	if err == api.OK && e.what == leaf {
		e.key, err = tx.Get(e.leaf + keyAt)
	}
	if err != api.OK {
		return end{}, err
	}
	return e, api.OK
}

// has tells whether the leaf of a key is there.
func (e end) has(key uint64) bool { return e.what == leaf && e.key == key }

// change lets a key have the value from now on that becomes of its old one (of 0, if it is not there): the old one, and whether it was there.
func change(tx api.Tx, room, at, key uint64, become func(old uint64) uint64) (uint64, bool, api.Errno) {
	if tx == nil {
		return 0, false, api.ErrNil
	}
	e, err := reach(tx, at, key)
	switch {
	case err != api.OK:
		return 0, false, err
	case e.what == nothing:
		return 0, false, hang(tx, room, e.cell, key, become(0))
	case e.key != key:
		return 0, false, e.part(tx, room, key, become(0))
	}
	old, err := tx.Get(e.leaf + valueAt)
	if err == api.OK {
		err = tx.Put(e.leaf+valueAt, become(old))
	}
	if err != api.OK {
		return 0, false, err
	}
	return old, true, api.OK
}

// hang lays a leaf, and puts its slot into a cell.
func hang(tx api.Tx, room, cell, key, value uint64) api.Errno {
	a, err := rooms.Take(tx, room, leafCells)
	if err == api.OK {
		err = tx.Put(a+keyAt, key)
	}
	if err == api.OK {
		err = tx.Put(a+valueAt, value)
	}
	if err == api.OK {
		err = tx.Put(cell, leafAt(a))
	}
	return err
}

// part pushes another key's leaf down to where its digits and those of a key part, and hangs a leaf of the key beside it.
func (e end) part(tx api.Tx, room, key, value uint64) api.Errno {
	cell := e.cell
	for d := e.digit + 1; d < digits; d++ {
		// A node is laid as a map without keys is.
		a, err := New(tx, room)
		if err == api.OK {
			err = tx.Put(cell, nodeAt(a))
		}
		if err != api.OK {
			return err
		}
		theirs, own := a+digit(e.key, d), a+digit(key, d)
		cell = own
		if theirs == own {
			continue
		}
		if err = tx.Put(theirs, e.word); err != api.OK {
			return err
		}
		return hang(tx, room, cell, key, value)
	}
	// Keys whose digits are the same to the last one are one key: the leaf stood where its key's way does not lead.
	return api.ErrDeep
}
