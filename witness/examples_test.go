package witness

import (
	"slices"
	"testing"

	"parley/api"
	"parley/sched"
)

// second is the script S of chapter 12's examples with the history of its second run: thread 1 commits, then thread 0.
func second(t *testing.T) (api.Script, []api.Event) {
	t.Helper()
	s := script(2, []uint64{5}, adds, adds)
	d, err := sched.New(s)
	if err != api.OK {
		t.Fatal(err)
	}
	d.Pick(0)
	for range 9 {
		d.Pick(1)
	}
	d.Alone(0, 100)
	return s, d.Outcome().Events
}

// The chapter's examples, row by row.
func TestExamples(t *testing.T) {
	s, h := second(t)
	last := len(h) - 2 // thread 0 halts behind its Committed
	cut(t, h, []api.Block{
		{Thread: 0, Kind: api.BlockCommitted, First: 0, Last: last, Number: 2, Writing: true, Reads: entries(0, 6), Writes: entries(0, 7)},
		{Thread: 1, Kind: api.BlockCommitted, First: 1, Last: 5, Number: 1, Writing: true, Reads: entries(0, 5), Writes: entries(0, 6)},
	})
	ordered(t, h, 1, 0)
	proves(t, s, h, api.Proof{Order: []int{1, 0}, Wrong: -1, Cells: []uint64{7, 0}, Threads: []api.Thread{behind(6, 7, 0, 1), behind(6, 6, 0, 1)}})

	at := slices.Index(h, api.Event{Kind: api.Read, Word: 6})
	other := slices.Clone(h)
	other[at].Word = 5
	proves(t, s, other, api.Proof{Order: []int{1, 0}, Wrong: 1})

	proves(t, s, nil, api.Proof{Wrong: -1, Cells: []uint64{5, 0}, Threads: []api.Thread{start(), start()}})
	if Ahead(h, 0, 1) || Ahead(h, 1, 0) {
		t.Error("blocks that overlap are ahead of one another")
	}
}

// DOC.md's examples 1, 2, 3, 4 and 6, played again.
func TestExamplesOfTheWhole(t *testing.T) {
	const adds1 = "const 2 1 | begin | get 0 1 | add 0 0 2 | put 0 1 | end | halt"
	one := script(1, nil, adds1)
	one.Picks = make([]uint32, 10)
	proves(t, one, run(t, one).Events, api.Proof{Order: []int{0}, Wrong: -1, Cells: []uint64{1}, Threads: []api.Thread{behind(6, 1, 0, 1)}})

	two := script(1, nil, adds1, adds1)
	for n := range uint32(60) {
		two.Picks = append(two.Picks, n)
	}
	h := run(t, two).Events
	l, _ := Blocks(h)
	if len(l) != 3 || l[0].Kind != api.BlockCommitted || l[1].Kind != api.BlockStale || l[2].Kind != api.BlockCommitted || l[2].Thread != 1 || l[2].Number != 2 {
		t.Errorf("%+v", l)
	}
	proves(t, two, h, api.Proof{Order: []int{0, 2}, Wrong: -1, Cells: []uint64{2}, Threads: []api.Thread{behind(6, 1, 0, 1), behind(6, 2, 0, 1)}})

	both := script(2, nil, "const 0 7 | const 2 1 | begin | put 0 1 | put 0 2 | end | halt", "const 2 1 | begin | get 3 1 | get 4 2 | end | halt")
	const wrote = "0 begin 0, 0 write 0 7, 0 write 1 7, 0 locked, 0 committed 1, "
	for _, x := range []struct {
		text string
		want api.Proof
	}{
		{wrote + "1 begin 2, 1 read 0 7, 1 read 1 7, 1 committed 1", api.Proof{Order: []int{0, 1}, Wrong: -1, Cells: []uint64{7, 7}, Threads: []api.Thread{behind(6, 7, 0, 1), behind(5, 0, 0, 1, 7, 7)}}},
		{"1 begin 0, 1 read 0 0, 1 read 1 0, " + wrote + "1 committed 0", api.Proof{Order: []int{0, 1}, Wrong: -1, Cells: []uint64{7, 7}, Threads: []api.Thread{behind(6, 7, 0, 1), behind(5, 0, 0, 1)}}},
		{"1 begin 0, 1 read 0 0, " + wrote + "1 read 1 7, 1 committed 0", api.Proof{Order: []int{0, 1}}},
		{"1 begin 0, 1 read 0 0, " + wrote + "1 moved 2, 1 read 1 7, 1 committed 1", api.Proof{Order: []int{1, 0}, Wrong: 1}},
	} {
		proves(t, both, hist(x.text), x.want)
	}

	ordered(t, hist("0 begin 0, 0 write 0 1, 0 locked, 0 committed 1, 1 begin 2, 0 begin 2, 0 write 0 1, 0 locked, 0 committed 2, 1 committed 1"), 0, 1, 2)

	fails := script(1, nil, "const 1 9 | begin | get 0 1 | end | halt")
	fails.Picks = make([]uint32, 5)
	proves(t, fails, run(t, fails).Events, api.Proof{Order: []int{0}, Wrong: -1, Cells: []uint64{0}, Threads: []api.Thread{broken(api.ErrRange, 1, 0, 9)}})
}
