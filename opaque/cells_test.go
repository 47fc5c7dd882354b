package opaque

import (
	"math"
	"slices"
	"testing"

	"parley/api"
)

// P16.3: the cells behind each number: of one commit the last Write of an address, and nothing of attempts that did not commit.
func TestBehind(t *testing.T) {
	first := []uint64{5, 6, 7}
	h := hist("1 begin 0, 1 write 0 90, 0 begin 0, 0 write 0 1, 0 write 2 2, 0 write 0 3, 0 own 0 3, 0 write 2 4, 0 write 0 5, 0 write 0 8, 0 locked, 0 committed 1, " +
		"1 stale, 1 begin 2, 1 write 1 91, 1 aborted, 2 begin 2, 2 write 1 92, 2 failed 6, 3 begin 2, 3 read 1 6, 3 committed 1, " +
		"4 begin 2, 4 write 1 9, 5 begin 2, 4 locked, 4 committed 2, 5 write 2 93, 5 moved 4, 5 locked, 5 committed 3, 6 begin 6, 6 write 0 94, 6 locked")
	isBehind(t, first, h, 0, 5, 6, 7)
	isBehind(t, first, h, 1, 8, 6, 4)
	isBehind(t, first, h, 2, 8, 9, 4)
	isBehind(t, first, h, 3, 8, 9, 93)
	isBehind(t, first, h[:2], 0, 5, 6, 7)
	isBehind(t, []uint64{top}, nil, 0, top)

	// A word that is written over by its own commit never stood there; one that is written again is as if nothing was.
	standTogether(t, first, h, cellList(0, 1))
	standTogether(t, first, h, cellList(0, 3))
	standTogether(t, first, h, cellList(2, 2))
	standTogether(t, first, h, cellList(0, 5), 0)
	same := hist("0 begin 0, 0 write 0 5, 0 locked, 0 committed 1, 0 begin 2, 0 write 0 9, 0 write 0 5, 0 locked, 0 committed 2")
	standTogether(t, first, same, cellList(0, 5), 0, 1, 2)
	standTogether(t, first, same, cellList(0, 9))
}

// P16.3: the order of writing commits is that of their Committeds, not that of their Begins.
func TestBehindByCommits(t *testing.T) {
	h := hist("0 begin 0, 1 begin 0, 1 write 0 1, 1 locked, 1 committed 1, 2 begin 2, 2 write 0 2, 2 locked, 2 committed 2, 0 moved 4, 0 write 0 3, 0 locked, 0 committed 3")
	for n, w := range []uint64{0, 1, 2, 3} {
		isBehind(t, []uint64{0}, h, n, w)
		standTogether(t, []uint64{0}, h, cellList(0, w), n)
	}
}

// P16.3: all cells there may be.
func TestManyCells(t *testing.T) {
	first := make([]uint64, api.MaxCells)
	for n := range first {
		first[n] = uint64(n)
	}
	h := []api.Event{{Kind: api.Begin}}
	var words []api.Cell
	for n := range first {
		h = append(h, api.Event{Kind: api.Read, Addr: uint64(n), Word: uint64(n)})
		words = append(words, api.Cell{Addr: uint64(n), Word: uint64(n)})
	}
	for n := range first {
		h = append(h, api.Event{Kind: api.Write, Addr: uint64(n), Word: uint64(n) + 1})
	}
	h = append(h, hist("0 locked, 0 committed 1")...)
	isBehind(t, first, h, 0, first...)
	want := slices.Clone(first)
	for n := range want {
		want[n]++
	}
	isBehind(t, first, h, 1, want...)
	standTogether(t, first, h, words, 0)
	sights(t, first, h, see(0, 0, len(h)-1, 0, api.Committed, api.MaxCells, api.MaxCells, 0, 1, 0))
	neverStood(t, first, h)
}

// P16.3: Together of no word, of one and of several, of one address twice.
func TestTogether(t *testing.T) {
	// Behind 0 to 5: the cell 0 is 5 6 5 5 8 5, the cell 1 is 1 1 1 2 2 1, the cell 2 is 0.
	h := hist("0 begin 0, 0 write 0 6, 0 locked, 0 committed 1, 1 begin 2, 1 write 0 5, 1 locked, 1 committed 2, 0 begin 4, 0 write 1 2, 0 locked, 0 committed 3, 0 begin 6, 0 write 0 8, 0 locked, 0 committed 4, 1 begin 8, 1 write 1 1, 1 write 0 5, 1 locked, 1 committed 5, 1 begin 10, 1 write 0 77")
	first := []uint64{5, 1, 0}
	for _, x := range []struct {
		words []api.Cell
		want  []int
	}{
		{nil, []int{0, 1, 2, 3, 4, 5}},
		{[]api.Cell{}, []int{0, 1, 2, 3, 4, 5}},
		{cellList(0, 5), []int{0, 2, 3, 5}},
		{cellList(0, 6), []int{1}},
		{cellList(0, 8), []int{4}},
		{cellList(0, 77), nil},
		{cellList(1, 1), []int{0, 1, 2, 5}},
		{cellList(1, 2), []int{3, 4}},
		{cellList(2, 0), []int{0, 1, 2, 3, 4, 5}},
		{cellList(2, 1), nil},
		{cellList(0, 5, 1, 1), []int{0, 2, 5}},
		{cellList(1, 1, 0, 5), []int{0, 2, 5}},
		{cellList(0, 5, 1, 2), []int{3}},
		{cellList(0, 5, 1, 2, 2, 0), []int{3}},
		{cellList(0, 6, 1, 2), nil},
		{cellList(0, 8, 1, 2, 2, 1), nil},
		{cellList(0, 5, 0, 5), []int{0, 2, 3, 5}},
		{cellList(0, 5, 1, 1, 0, 5, 1, 1), []int{0, 2, 5}},
		{cellList(0, 5, 0, 6), nil},
		{cellList(0, 5, 2, 0, 0, 8), nil},
		{cellList(0, top, 0, math.MaxInt64), nil},
	} {
		standTogether(t, first, h, x.words, x.want...)
	}
	standTogether(t, []uint64{5}, nil, nil, 0)
	standTogether(t, []uint64{5}, nil, cellList(0, 5), 0)
	standTogether(t, []uint64{5}, nil, cellList(0, 4))
}

// P16.3: Never: rising by address, then by word, each once; a word that stood there at whatever number is none.
func TestNever(t *testing.T) {
	first := []uint64{5, 6, 7}
	for text, want := range map[string][]api.Cell{
		"": nil, wrote: nil, "0 begin 0": nil,
		"0 begin 0, 0 read 0 5, 0 read 1 6":             nil,
		"0 begin 0, 0 read 0 6":                         cellList(0, 6),
		"0 begin 0, 0 read 2 9, 0 read 1 9, 0 read 0 9": cellList(0, 9, 1, 9, 2, 9),
		"0 begin 0, 0 read 1 9, 0 read 1 3, 0 read 1 6, 0 read 1 18446744073709551615, 0 read 1 0":                         cellList(1, 0, 1, 3, 1, 9, 1, top),
		"0 begin 0, 0 read 2 0, 0 read 0 18446744073709551615, 0 read 1 9223372036854775808, 0 read 1 9223372036854775807": cellList(0, top, 1, math.MaxInt64, 1, 1<<63, 2, 0),
		// Each once, of one attempt and of several, however they ended.
		"0 begin 0, 0 read 0 9, 1 begin 0, 1 read 0 9, 0 read 0 9, 1 stale, 1 begin 0, 1 read 0 9, 1 aborted, 2 begin 0, 2 read 0 9, 2 failed 6, 3 begin 0, 3 read 0 9, 3 committed 0": cellList(0, 9),
		// 7 stands there, though later than it was read, or had stood there before.
		"1 begin 0, 1 read 0 7, 1 stale, " + wrote:    nil,
		wrote + ", 1 begin 2, 1 read 0 5, 1 read 1 6": nil,
		wrote + ", 1 begin 2, 1 read 0 8, 1 read 1 7": cellList(0, 8, 1, 7),
		// Own reads, and Writes that did not commit, or that were written over.
		"0 begin 0, 0 write 0 9, 0 own 0 9":                                                                            nil,
		"0 begin 0, 0 write 0 9, 0 own 0 9, 1 begin 0, 1 read 0 9, 0 aborted":                                          cellList(0, 9),
		"1 begin 0, 0 begin 0, 0 write 0 9, 0 locked, 1 read 0 9":                                                      cellList(0, 9),
		"1 begin 0, 0 begin 0, 0 write 0 9, 0 locked, 1 read 0 9, 0 committed 1":                                       nil,
		"0 begin 0, 0 write 0 9, 0 write 0 8, 0 locked, 0 committed 1, 1 begin 2, 1 read 0 9":                          cellList(0, 9),
		"0 begin 0, 0 write 0 9, 0 write 0 8, 0 write 0 9, 0 locked, 0 committed 1, 1 begin 2, 1 read 0 9, 1 read 0 8": cellList(0, 8),
	} {
		neverStood(t, first, hist(text), want...)
	}
}
