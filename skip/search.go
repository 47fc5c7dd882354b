package skip

import "parley/api"

// none is what a link has that leads to no node: others have a node's first cell, plus 1.
const none uint64 = 0

// Where a node has what, from its first cell on, which has its word.
const (
	levelAt uint64 = iota + 1
	linksAt
)

// link is a link as it was got: its cell, what that has, and the word of the node to which it leads.
type link struct{ cell, to, word uint64 }

// leads tells whether there is a node behind the link.
func (l link) leads() bool { return l.to != none }

// node is the first cell of the node behind the link.
func (l link) node() uint64 {
	l.to -= 1
	return l.to
}

// lasts is the last links of all levels.
type lasts [Levels]link

// have tells whether a word is there, which was searched for.
func (l lasts) have(x uint64) bool { return l[0].leads() && l[0].word == x }

// walk is what one call gets of nodes: how many of their words is counted, since links that go round have no end.
type walk struct {
	tx    api.Tx
	words int
}

// follow gets a link and, if it leads to a node, that node's word.
func (w *walk) follow(cell uint64) (link, api.Errno) {
	to, err := w.tx.Get(cell)
	if err != api.OK {
		return link{}, err
	}
	l := link{cell: cell, to: to}
	if !l.leads() {
		return l, api.OK
	}
	if w.words == api.MaxCells {
		return link{}, api.ErrShape
	}
	w.words++
	if l.word, err = w.tx.Get(l.node()); err != api.OK {
		return link{}, err
	}
	return l, api.OK
}

// below is how a search goes on that is to stop ahead of a word's own node.
func below(x uint64) func(uint64) bool {
	return func(word uint64) bool { return word < x }
}

// upTo is how a search goes on that is to stop behind a word's own node.
func upTo(x uint64) func(uint64) bool {
	return func(word uint64) bool { return word <= x }
}

// search goes from level to level down to the last links, over the nodes whose words it is to pass.
func search(tx api.Tx, at uint64, passes func(word uint64) bool) (lasts, api.Errno) {
	var last lasts
	var err api.Errno
	w := walk{tx: tx}
	links, level := at, uint64(Levels)
down:
	level -= 1
	for {
		last[level], err = w.follow(links + level)
		if err != api.OK {
			return lasts{}, err
		}
		if !last[level].leads() || !passes(last[level].word) {
			break
		}
		links = last[level].node()
		links += linksAt
	}
	if level > 0 {
		goto down
	}
	return last, api.OK
}

// each tells all words, along the links of the level 0.
func each(tx api.Tx, at uint64, tell func(word uint64)) api.Errno {
	w := walk{tx: tx}
	l, err := w.follow(at)
	for err == api.OK && l.leads() {
		tell(l.word)
		l, err = w.follow(l.node() + linksAt)
	}
	return err
}
