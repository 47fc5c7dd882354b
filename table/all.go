package table

import "parley/api"

// all gets all leaves of a map, slot by slot.
func all(tx api.Tx, at uint64) ([]api.Cell, api.Errno) {
	var list []api.Cell
	full := 0
	var through func(at uint64, below int) api.Errno
	through = func(at uint64, below int) api.Errno {
		for n := range uint64(Header) {
			word, err := tx.Get(at + n)
			if err != api.OK {
				return err
			}
			what, where := within(word)
			if what != nothing {
				full++
			}
			switch {
			case full > api.MaxCells, what == node && below == digits-1:
				return api.ErrDeep
			case what == leaf:
				var c api.Cell
				c, err = leafOf(tx, where)
				list = append(list, c)
			case what == node:
				err = through(where, below+1)
			}
			if err != api.OK {
				return err
			}
		}
		return api.OK
	}
	if err := through(at, 0); err != api.OK {
		return nil, err
	}
	return list, api.OK
}

// leafOf gets a leaf's key and its value.
func leafOf(tx api.Tx, at uint64) (api.Cell, api.Errno) {
	key, err := tx.Get(at + keyAt)
	if err != api.OK {
		return api.Cell{}, err
	}
	value, err := tx.Get(at + valueAt)
	if err != api.OK {
		return api.Cell{}, err
	}
	return api.Cell{Addr: key, Word: value}, api.OK
}
