package room

import "parley/api"

// endOf is the cell of a header that tells where its room ends.
func endOf(at uint64) uint64 {
	at += bound
	return at
}

// headOf is the cell of a header that leads to the pieces of a size.
func headOf(at, size uint64) uint64 {
	at += bound
	at += size
	return at
}

// may tells whether a call has a tx, and a size that a piece may have.
func may(tx api.Tx, size uint64) api.Errno {
	if tx == nil {
		return api.ErrNil
	}
	if size < 1 || size > Most {
		return api.ErrArg
	}
	return api.OK
}

// unused tells from where on cells were never taken, and how many they are.
func unused(tx api.Tx, at uint64) (next, count uint64, err api.Errno) {
	if next, err = tx.Get(at); err != api.OK {
		return 0, 0, err
	}
	end, err := tx.Get(endOf(at))
	if err != api.OK {
		return 0, 0, err
	}
	if end > next {
		count = end - next
	}
	return next, count, api.OK
}

// takeNew takes a piece of cells that were never taken. How many are left is held against the size, for the sum of the address and the size may go round.
func takeNew(tx api.Tx, at, size uint64) (uint64, api.Errno) {
	piece, count, err := unused(tx, at)
	if err != api.OK {
		return 0, err
	}
	if count < size {
		return 0, api.ErrRoom
	}
	next := piece
	next += size
	if err = tx.Put(at, next); err != api.OK {
		return 0, err
	}
	return piece, api.OK
}

// takeGiven takes the first of the pieces to which a head leads.
func takeGiven(tx api.Tx, head, piece uint64) (uint64, api.Errno) {
	next, err := tx.Get(piece)
	if err != api.OK {
		return 0, err
	}
	if err = tx.Put(head, next); err != api.OK {
		return 0, err
	}
	return piece, api.OK
}
