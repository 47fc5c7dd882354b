package rank

import (
	"math"

	"parley/api"
	numbers "parley/word"
)

// most is how many entries are gone over at most: no call answers more than these, and so nodes that have no end come to one.
const most = math.MaxInt32

// walk is a heap that is gone over: how many nodes it must have, and those that were got so far.
type walk struct {
	tx    api.Tx
	count uint64
	seen  map[uint64]struct{}
	found []*tree
}

// all tells the nodes of a heap that is sound, none ahead of the one that leads to it. That it is not sound is told as soon as it shows.
func all(tx api.Tx, h uint64) ([]*tree, api.Errno) {
	own, err := heapAt(tx, h)
	if err != api.OK {
		return nil, err
	}
	if own[countAt] > most {
		return nil, api.ErrHeap
	}
	w := walk{tx: tx, count: own[countAt], seen: map[uint64]struct{}{}}
	if _, err = w.follow(nil, own[rootAt]); err != api.OK {
		return nil, err
	}
	for n := 0; n < len(w.found); n++ {
		if err = w.children(w.found[n]); err != api.OK {
			return nil, err
		}
	}
	if uint64(len(w.found)) != w.count {
		return nil, api.ErrHeap
	}
	return w.found, api.OK
}

// follow gets the node to which a word leads, which no other way has led to, and which is not ahead of its parent (nil: the root has none).
func (w *walk) follow(parent *tree, to uint64) (*tree, api.Errno) {
	if to == none {
		return nil, api.OK
	}
	if _, twice := w.seen[to]; twice || uint64(len(w.found)) == w.count {
		return nil, api.ErrHeap
	}
	t, err := treeAt(w.tx, to)
	if err != api.OK {
		return nil, err
	}
	if _, ok := numbers.Real(t.cells[keyAt]); !ok || parent != nil && t.ahead(parent) {
		return nil, api.ErrHeap
	}
	w.seen[to] = struct{}{}
	w.found = append(w.found, t)
	return t, api.OK
}

// children goes on from a node to its children, whose ranks tell its own.
func (w *walk) children(t *tree) api.Errno {
	left, err := w.follow(t, t.cells[leftAt])
	if err != api.OK {
		return err
	}
	right, err := w.follow(t, t.cells[rightAt])
	if err != api.OK {
		return err
	}
	if right.rank() > left.rank() || t.rank() != right.rank()+1 {
		return api.ErrHeap
	}
	return api.OK
}
