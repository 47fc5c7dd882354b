package rank

import (
	"cmp"

	"parley/api"
	rooms "parley/room"
	numbers "parley/word"
)

// tree is a node as it was got, or is to be, with all that is behind it: its address and its cells. A nil one is a tree without nodes.
type tree struct {
	at    uint64
	cells [nodeCells]uint64
}

// leaf is a tree of one entry, which lies nowhere yet.
func leaf(key float64, word uint64) *tree {
	return &tree{cells: [nodeCells]uint64{keyAt: numbers.OfReal(key), wordAt: word, rankAt: 1}}
}

// lay takes a node's cells out of a room, and puts what they have.
func (t *tree) lay(tx api.Tx, room uint64) api.Errno {
	at, err := rooms.Take(tx, room, nodeCells)
	if err != api.OK {
		return err
	}
	t.at = at
	return put(tx, at, t.cells[:]...)
}

// treeAt gets the node to which a word leads.
func treeAt(tx api.Tx, to uint64) (*tree, api.Errno) {
	if to == none {
		return nil, api.OK
	}
	t := &tree{at: nodeOf(to)}
	if err := get(tx, t.at, t.cells[:]); err != api.OK {
		return nil, err
	}
	return t, api.OK
}

// to is the word that leads to a tree.
func (t *tree) to() uint64 {
	if t == nil {
		return none
	}
	return t.at + 1
}

// rank is a tree's rank.
func (t *tree) rank() uint64 {
	if t == nil {
		return 0
	}
	return t.cells[rankAt]
}

// compare tells in which order two nodes are: numbers are as their words are.
func (t *tree) compare(other *tree) int {
	return cmp.Or(cmp.Compare(t.cells[keyAt], other.cells[keyAt]), cmp.Compare(t.cells[wordAt], other.cells[wordAt]))
}

// ahead tells whether a node is ahead of another one in the order.
func (t *tree) ahead(other *tree) bool { return t.compare(other) < 0 }

// branch is what a node must know of a child: the word that leads to it, and its rank.
type branch struct{ to, rank uint64 }

// branchAt gets the rank of the node to which a word leads.
func branchAt(tx api.Tx, to uint64) (branch, api.Errno) {
	if to == none {
		return branch{}, api.OK
	}
	rank, err := tx.Get(nodeOf(to) + rankAt)
	if err != api.OK {
		return branch{}, err
	}
	return branch{to, rank}, api.OK
}

// bind lets a node have these two children: the one with the greater rank stands left, so that to the right there are few nodes.
func (t *tree) bind(tx api.Tx, left, right branch) api.Errno {
	if right.rank > left.rank {
		left, right = right, left
	}
	had := t.cells
	t.cells[leftAt], t.cells[rightAt], t.cells[rankAt] = left.to, right.to, right.rank+1
	return change(tx, t.at, had[:], t.cells[:])
}

// deepest is how many nodes two sound trees have at most from their roots to the right: behind a node of the rank 65 there would be more nodes than there are words.
const deepest = 2 * 64

// unite puts two trees together. On the way down all is got, then turn is called, and on the way up all is put: what is refused on the way down, or by turn, has changed nothing.
func unite(tx api.Tx, a, b *tree, turn func() api.Errno) (*tree, api.Errno) {
	var join func(a, b *tree, more int) (*tree, api.Errno)
	join = func(a, b *tree, more int) (*tree, api.Errno) {
		switch {
		case a == nil:
			return b, turn()
		case b == nil:
			return a, turn()
		case more == 0:
			return nil, api.ErrHeap
		case b.ahead(a):
			a, b = b, a
		}
		left, err := branchAt(tx, a.cells[leftAt])
		if err != api.OK {
			return nil, err
		}
		right, err := treeAt(tx, a.cells[rightAt])
		if err == api.OK {
			right, err = join(right, b, more-1)
		}
		if err == api.OK {
			err = a.bind(tx, left, branch{right.to(), right.rank()})
		}
		if err != api.OK {
			return nil, err
		}
		return a, api.OK
	}
	return join(a, b, deepest)
}

// meld puts the trees together to which two words lead, and tells the word that leads to what they are then.
func meld(tx api.Tx, a, b uint64) (uint64, api.Errno) {
	if a == none {
		return b, api.OK
	}
	if b == none {
		return a, api.OK
	}
	first, err := treeAt(tx, a)
	if err != api.OK {
		return 0, err
	}
	second, err := treeAt(tx, b)
	if err != api.OK {
		return 0, err
	}
	top, err := unite(tx, first, second, func() api.Errno { return api.OK })
	if err != api.OK {
		return 0, err
	}
	return top.to(), api.OK
}

// unroot takes a heap's root out of it.
func unroot(tx api.Tx, h uint64, had heap, root *tree) api.Errno {
	top, err := meld(tx, root.cells[leftAt], root.cells[rightAt])
	if err != api.OK {
		return err
	}
	return had.become(tx, h, had[countAt]-1, top)
}
