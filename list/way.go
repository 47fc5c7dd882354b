package list

import "parley/api"

// spot is a place of a list: the cell that leads there, what it has (none, or the node's address, plus 1), and that node's key.
type spot struct{ link, next, key uint64 }

// there tells whether there is a node.
func (s spot) there() bool { return s.next != none }

// node is the address of the node that is there.
func (s spot) node() uint64 { return s.next - 1 }

// has tells whether there is a node with this key.
func (s spot) has(key uint64) bool { return s.there() && s.key == key }

// leads is the second cell of a list, or of a node: the one that leads to the next node.
func leads(addr uint64) uint64 { return addr + 1 }

// follow tells the spot to which a cell leads.
func follow(tx api.Tx, link uint64) (spot, api.Errno) {
	next, err := tx.Get(link)
	if err != api.OK {
		return spot{}, err
	}
	s := spot{link: link, next: next}
	if s.there() {
		s.key, err = tx.Get(s.node())
	}
	if err != api.OK {
		return spot{}, err
	}
	return s, api.OK
}

// way goes along a list to the first node that it does not pass over, or to its end. Keys that don't rise are refused: else it would have no end where nodes go round.
func way(tx api.Tx, l uint64, passes func(s spot) bool) (at spot, err api.Errno) {
	before, link := spot{}, leads(l)
nodes:
	for {
		switch at, err = follow(tx, link); {
		case err != api.OK, !at.there():
			break nodes
		case before.there() && at.key <= before.key:
			return spot{}, api.ErrList
		case !passes(at):
			break nodes
		}
		before, link = at, leads(at.node())
	}
	return at, err
}

// seek goes to the spot where a key stands, or would stand.
func seek(tx api.Tx, l, key uint64) (spot, api.Errno) {
	return way(tx, l, func(s spot) bool { return s.key < key })
}

// all tells the spots of all nodes of a list that is sound.
func all(tx api.Tx, l uint64) ([]spot, api.Errno) {
	count, err := tx.Get(l)
	if err != api.OK {
		return nil, err
	}
	var spots []spot
	end, err := way(tx, l, func(s spot) bool {
		if uint64(len(spots)) == count {
			return false
		}
		spots = append(spots, s)
		return true
	})
	if err != api.OK {
		return nil, err
	}
	if end.there() || uint64(len(spots)) != count {
		return nil, api.ErrList
	}
	return spots, api.OK
}
