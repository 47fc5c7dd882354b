package skip

import "parley/api"

// cellsOf is how many cells a node of this level has.
func cellsOf(level uint64) uint64 { return linksAt + level }

// levelOf gets a node's level, which nothing has asked for on the way there.
func levelOf(tx api.Tx, node uint64) (uint64, api.Errno) {
	level, err := tx.Get(node + levelAt)
	if err != api.OK {
		return 0, err
	}
	if level < 1 || level > Levels {
		return 0, api.ErrShape
	}
	return level, api.OK
}

// write puts a node's word and its level.
func write(tx api.Tx, node, x, level uint64) api.Errno {
	if err := tx.Put(node, x); err != api.OK {
		return err
	}
	return tx.Put(node+levelAt, level)
}

// hang lets a node lead to where the last links of its levels led, and these to the node.
func hang(tx api.Tx, last []link, node uint64) api.Errno {
	own := node + linksAt
	for _, l := range last {
		if err := tx.Put(own, l.to); err != api.OK {
			return err
		}
		if err := tx.Put(l.cell, node+1); err != api.OK {
			return err
		}
		own += 1
	}
	return api.OK
}

// unhang lets the last links of a node's levels lead to where its own lead.
func unhang(tx api.Tx, last []link, node uint64) api.Errno {
	own := node + linksAt
	for _, l := range last {
		to, err := tx.Get(own)
		if err != api.OK {
			return err
		}
		if err = tx.Put(l.cell, to); err != api.OK {
			return err
		}
		own += 1
	}
	return api.OK
}
