package part

import "parley/api"

// What a queue's header has, from its first cell on, and how many cells it is.
const (
	queueFirst uint64 = iota
	queueLast
	queueCount
	queueCells
)

// What a list's header has, likewise.
const (
	listCount uint64 = iota
	listFirst
	listCells
)

// What a node's cells have, in queues and lists alike, and how many they are.
const (
	wordAt uint64 = iota
	nextAt
	nodeCells
)

// none is the word of a cell that leads to no node: others have a node's address, plus 1.
const none uint64 = 0

// nodeOf is the address of the node to which a word leads.
func nodeOf(to uint64) uint64 { return to - 1 }

// leadsTo is the word that leads to a node.
func leadsTo(node uint64) uint64 { return node + 1 }

// hasNodes tells whether a part says of itself that it has nodes.
func hasNodes(p api.Part) bool { return p.First != none || p.Count != 0 }

// behind is the part that hangs on a header's cell link, with as many nodes as the header's own layer tells.
func behind(tx api.Tx, kind api.PartKind, link, header uint64, length func(tx api.Tx, header uint64) (uint64, api.Errno)) (api.Part, api.Errno) {
	first, err := tx.Get(link)
	if err != api.OK {
		return api.Part{}, err
	}
	count, err := length(tx, header)
	if err != api.OK {
		return api.Part{}, err
	}
	return api.Part{Kind: kind, First: first, Count: count}, api.OK
}

// cut is a part whose header leads to it no more.
func cut(tx api.Tx, p api.Part, header, cells uint64) (api.Part, api.Errno) {
	// Where nothing is taken out nothing changes: a block that has done no more goes on as one that only looks.
	if !hasNodes(p) {
		return p, api.OK
	}
	if err := put(tx, header, make([]uint64, cells)...); err != api.OK {
		return api.Part{}, err
	}
	return p, api.OK
}

// put puts words, from a cell on.
func put(tx api.Tx, addr uint64, words ...uint64) api.Errno {
	for n, word := range words {
		if err := tx.Put(addr+uint64(n), word); err != api.OK {
			return err
		}
	}
	return api.OK
}

// along goes over a part's nodes, and hands each on with its word ahead of the load of what comes next. The count bounds chains that go round.
func along(p api.Part, load func(addr uint64) (uint64, api.Errno), each func(node, word uint64) api.Errno) api.Errno {
	if p.Kind != api.PartQueue && p.Kind != api.PartList {
		return api.ErrArg
	}
	left, to := p.Count, p.First
	if left > api.MaxCells {
		return api.ErrPart
	}
nodes:
	for {
		switch {
		case to == none:
			break nodes
		case left == 0:
			return api.ErrPart
		}
		node := nodeOf(to)
		word, err := load(node + wordAt)
		if err == api.OK {
			err = each(node, word)
		}
		if err == api.OK {
			to, err = load(node + nextAt)
		}
		if err != api.OK {
			return err
		}
		left--
	}
	if left > 0 {
		return api.ErrPart
	}
	return api.OK
}
