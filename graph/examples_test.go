package graph

import (
	"testing"

	"parley/api"
)

// The chapter's examples, row by row.
func TestExamples(t *testing.T) {
	ordered(t, 4, edges(2, 0, 3, 0, 0, 1), 2, 3, 0, 1)
	ordered(t, 3, nil, 0, 1, 2)
	inRound(t, 2, edges(0, 1, 1, 0))
	refused(t, 1, edges(0, 1)...)

	found(t, 3, edges(0, 1, 1, 2, 2, 0, 1, 0), 0, 3)
	found(t, 2, edges(0, 0), 0)
	found(t, 2, edges(0, 1))

	reaches(t, 4, 1, edges(1, 2, 2, 1, 3, 0), 1, 2)
	deep(t, 4, edges(0, 1, 1, 2, 0, 2), 0, 1, 2, 0)
	need(t, 3, edges(0, 1, 1, 2, 0, 2, 0, 1), 0, 1)

	graphOf(t, hist("1 begin 0, 0 begin 0, 0 write 1 5, 1 read 1 0, 0 locked, 0 committed 1, 1 committed 0"),
		[]api.Try{done(0, 1, 5, 0, 0, 1), done(1, 0, 6, 0, 1, 0)}, api.Edge{From: 1, To: 0, Kind: api.EdgeUnseen})
	graphOf(t, hist("0 begin 0, 0 write 1 5, 0 locked, 0 committed 1, 1 begin 2, 1 read 1 5, 1 committed 1"),
		[]api.Try{done(0, 0, 3, 0, 0, 1), done(1, 4, 6, 2, 1, 0)}, api.Edge{From: 0, To: 1, Kind: api.EdgeTime}, api.Edge{From: 0, To: 1, Kind: api.EdgeSeen})
}

// DOC.md's example 4: three blocks, number 1, one that read alone at the snapshot 2, number 2: that is their order, also if the one that read alone ended last.
func TestExampleOfTheWhole(t *testing.T) {
	h := hist("0 begin 0, 0 write 1 5, 0 locked, 0 committed 1, 1 begin 2, 1 read 1 5, 2 begin 2, 2 write 1 6, 2 locked, 2 committed 2, 1 committed 1")
	graphOf(t, h, []api.Try{done(0, 0, 3, 0, 0, 1), done(2, 6, 9, 2, 0, 1), done(1, 4, 10, 2, 1, 0)}, told(0, 1, 1, 0, 1, 2, 0, 2, 1, 0, 2, 3, 2, 1, 4)...)
	_, l, _ := Of(h)
	ordered(t, 3, l, 0, 2, 1)
}
