package opaque

import (
	"testing"

	"parley/api"
)

// wrote is the history W of the chapter's examples.
const wrote = "0 begin 0, 0 write 0 7, 0 write 1 8, 0 locked, 0 committed 1"

// ofWriter is what the attempt of W has seen, as it stands behind so many events.
func ofWriter(first int) api.Sight {
	return api.Sight{Try: api.Try{First: first, Last: first + 4, How: api.Committed, Writes: 2}, Upto: 1, At: 1}
}

// The chapter's examples, row by row.
func TestExamples(t *testing.T) {
	first := []uint64{5, 6}
	for _, x := range []struct {
		text   string
		writer int
		last   int
		moved  uint64
		reads  int
		want   [3]int
		check  int
		never  []api.Cell
	}{
		{"1 begin 0, 1 read 0 5, " + wrote, 2, 1, 0, 1, [3]int{0, 0, 0}, -1, nil},
		{"1 begin 0, 1 read 0 5, " + wrote + ", 1 moved 2", 2, 7, 2, 1, [3]int{0, 1, 0}, -1, nil},
		{"1 begin 0, " + wrote + ", 1 read 0 7, 1 read 1 6", 1, 7, 0, 2, [3]int{0, 1, -1}, 0, nil},
		{"1 begin 0, " + wrote + ", 1 read 0 9", 1, 6, 0, 1, [3]int{0, 1, -1}, 0, cellList(0, 9)},
	} {
		h := hist(x.text)
		one := api.Sight{Try: api.Try{Thread: 1, Last: x.last, Snapshot: x.moved, Reads: x.reads}, From: x.want[0], Upto: x.want[1], At: x.want[2]}
		sights(t, first, h, one, ofWriter(x.writer))
		checks(t, first, h, x.check)
		neverStood(t, first, h, x.never...)
	}
	h := hist(wrote + ", 1 begin 2")
	sights(t, first, h, ofWriter(0), api.Sight{Try: api.Try{Thread: 1, First: 5, Last: 5, Snapshot: 2}, From: 1, Upto: 1, At: 1})
	checks(t, first, h, -1)

	w := hist(wrote)
	isBehind(t, first, w, 1, 7, 8)
	if l, odd := Behind(first, w, 2); l != nil || odd != (api.Odd{At: -1, Err: api.ErrArg}) {
		t.Errorf("behind 2: %v, %v", l, odd)
	}
	standTogether(t, first, w, cellList(0, 5, 1, 6), 0)
	standTogether(t, first, w, cellList(0, 7), 1)
	standTogether(t, first, w, nil, 0, 1)
	if l, odd := Together(first, w, api.Cell{Addr: 2, Word: 1}); l != nil || odd != (api.Odd{At: -1, Err: api.ErrRange}) {
		t.Errorf("a word of no cell: %v, %v", l, odd)
	}
	refused(t, first, hist("0 loaded 0 5"), api.Odd{Err: api.ErrPlain})
}

// DOC.md's example 3: whatever is read, it is both words as they were, or both as they are; 0 and then 7 is at no time.
func TestExampleOfTheWhole(t *testing.T) {
	first := []uint64{0, 0}
	const both = "0 begin 0, 0 write 0 7, 0 write 1 7, 0 locked, 0 committed 1, "
	for text, at := range map[string]int{
		"1 begin 0, 1 read 0 0, 1 read 1 0, " + both + "1 committed 0":            0,
		"1 begin 0, " + both + "1 moved 2, 1 read 0 7, 1 read 1 7, 1 committed 1": 1,
		"1 begin 0, 1 read 0 0, " + both + "1 stale":                              0,
		"1 begin 0, 1 read 0 0, " + both + "1 read 1 7":                           -1,
	} {
		if l, odd := Sights(first, hist(text)); odd != fine || len(l) != 2 || l[0].At != at {
			t.Errorf("Sights of %s answers %+v, %v", text, l, odd)
		}
	}
}
