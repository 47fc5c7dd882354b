package witness

import (
	"math"
	"slices"
	"testing"

	"parley/api"
	"parley/events"
)

// entries are addresses with their words.
func entries(l ...uint64) []api.Entry {
	var out []api.Entry
	for n := 0; n < len(l); n += 2 {
		out = append(out, api.Entry{Addr: l[n], Word: l[n+1]})
	}
	return out
}

// cut asks for a history's blocks.
func cut(t *testing.T, h []api.Event, want []api.Block) {
	t.Helper()
	if got, err := Blocks(h); err != api.OK || !slices.EqualFunc(got, want, sameBlock) {
		t.Errorf("Blocks of %s answers %+v, %v, not %+v", asText(h), got, err, want)
	}
}

// ordered asks for a history's order.
func ordered(t *testing.T, h []api.Event, want ...int) {
	t.Helper()
	if got, err := Order(h); err != api.OK || !slices.Equal(got, want) {
		t.Errorf("Order of %s answers %v, %v, not %v", asText(h), got, err, want)
	}
}

// impossible are histories that can't be, one for each error that Check tells, with other events around.
func impossible() map[api.Errno][][]api.Event {
	fine := hist("0 begin 0, 0 read 1 5, 0 committed 0, 1 begin 0, 1 write 0 1, 1 locked, 1 committed 1")
	behind := func(text string) []api.Event { return append(slices.Clip(fine), hist(text)...) }
	unformed := func(e api.Event) []api.Event { return append(slices.Clip(fine), e) }
	return map[api.Errno][][]api.Event{
		api.ErrForm: {
			{{}}, unformed(api.Event{Kind: api.Begin, Word: 1}), unformed(api.Event{Thread: 8, Kind: api.Begin, Word: 2}), unformed(api.Event{Thread: -1, Kind: api.Halted}),
			unformed(api.Event{Thread: math.MaxInt, Kind: api.Loaded}), unformed(api.Event{Thread: math.MinInt, Kind: api.Stored}), unformed(api.Event{Kind: 13}), unformed(api.Event{Kind: api.Failed, Err: api.ErrPlace}),
		},
		api.ErrTurn:   {hist("0 locked"), behind("0 read 0 1"), behind("1 committed 1"), behind("0 halted, 0 begin 2"), behind("0 failed 5"), behind("0 begin 2, 0 failed 4, 0 failed 4"), behind("0 begin 2, 0 loaded 0 1")},
		api.ErrLock:   {behind("0 begin 2, 1 begin 2, 0 write 0 1, 0 locked, 1 moved 2"), behind("0 begin 2, 0 write 0 1, 0 locked, 1 begin 2")},
		api.ErrNumber: {hist("0 begin 2"), behind("0 begin 0"), behind("0 begin 2, 0 committed 2"), behind("0 begin 2, 0 moved 2"), behind("0 begin 2, 0 write 0 1, 0 locked, 0 committed 1")},
		api.ErrOwn:    {hist("0 begin 0, 0 locked"), behind("0 begin 2, 0 own 1 5"), behind("0 begin 2, 0 write 1 5, 0 read 1 5"), behind("0 begin 2, 0 write 1 5, 0 own 1 6"), behind("0 begin 2, 0 write 1 5, 0 committed 1")},
	}
}

// P15.1: of a history that can't be the error of Check, and nothing else.
func TestWhatCanNotBe(t *testing.T) {
	for want, l := range impossible() {
		for _, h := range l {
			if odd := events.Check(h); odd.Err != want {
				t.Fatalf("Check of %v answers %v, not %v", h, odd, want)
			}
			if blocks, err := Blocks(h); blocks != nil || err != want {
				t.Errorf("Blocks of %v answers %v, %v, not %v", h, blocks, err, want)
			}
			if order, err := Order(h); order != nil || err != want {
				t.Errorf("Order of %v answers %v, %v, not %v", h, order, err, want)
			}
		}
	}
}

// P15.1: of no events, and of none of a block.
func TestNoBlocks(t *testing.T) {
	for _, h := range [][]api.Event{nil, {}, hist("0 loaded 1 1, 0 stored 1 1, 1 halted, 0 failed 4"), hist("7 failed 4")} {
		cut(t, h, nil)
		ordered(t, h)
	}
}

// P15.1: one block of each kind, with all that is told of it.
func TestOneBlock(t *testing.T) {
	for _, x := range []struct {
		text string
		want api.Block
	}{
		{"5 begin 0", api.Block{Thread: 5, Kind: api.BlockOpen}},
		{"0 begin 0, 0 committed 0", api.Block{Kind: api.BlockCommitted, Last: 1}},
		{"0 begin 0, 0 aborted", api.Block{Kind: api.BlockAborted, Last: 1}},
		{"0 begin 0, 0 failed 4", api.Block{Kind: api.BlockFailed, Last: 1, Err: api.ErrRange}},
		{"0 begin 0, 0 failed 5", api.Block{Kind: api.BlockFailed, Last: 1, Err: api.ErrFull}},
		{"0 begin 0, 0 failed 6", api.Block{Kind: api.BlockFailed, Last: 1, Err: api.ErrFuel}},
		{"0 begin 0, 0 stale", api.Block{Kind: api.BlockStale, Last: 1}},
		{"0 begin 0, 0 read 3 9, 0 read 1 2, 0 read 3 9, 0 committed 0", api.Block{Kind: api.BlockCommitted, Last: 4, Reads: entries(3, 9, 1, 2, 3, 9)}},
		{"0 begin 0, 0 write 3 9, 0 locked, 0 committed 1", api.Block{Kind: api.BlockCommitted, Last: 3, Number: 1, Writing: true, Writes: entries(3, 9)}},
		// A word that is written over is told, too; what is read out of them is not.
		{"0 begin 0, 0 read 2 4, 0 write 3 9, 0 own 3 9, 0 write 1 1, 0 write 3 8, 0 own 3 8, 0 read 2 4, 0 locked, 0 committed 1",
			api.Block{Kind: api.BlockCommitted, Last: 9, Number: 1, Writing: true, Reads: entries(2, 4, 2, 4), Writes: entries(3, 9, 1, 1, 3, 8)}},
		// One that has written, and holds the lock even, is no writing one but it has committed.
		{"0 begin 0, 0 write 3 9, 0 locked", api.Block{Kind: api.BlockOpen, Last: 2, Writes: entries(3, 9)}},
		{"0 begin 0, 0 write 3 9", api.Block{Kind: api.BlockOpen, Last: 1, Writes: entries(3, 9)}},
		{"0 begin 0, 0 write 3 9, 0 own 3 9, 0 aborted", api.Block{Kind: api.BlockAborted, Last: 3, Writes: entries(3, 9)}},
		{"0 begin 0, 0 read 3 9, 0 write 3 9, 0 failed 5", api.Block{Kind: api.BlockFailed, Last: 3, Err: api.ErrFull, Reads: entries(3, 9), Writes: entries(3, 9)}},
		{"0 begin 0, 0 read 3 9, 0 write 3 9, 0 stale", api.Block{Kind: api.BlockStale, Last: 3, Reads: entries(3, 9), Writes: entries(3, 9)}},
		// What is outside belongs to no block, a plain access that fails least of all.
		{"0 loaded 1 1, 0 begin 0, 0 stale, 0 failed 4", api.Block{Kind: api.BlockStale, First: 1, Last: 2}},
		{"0 stored 1 1, 0 begin 0, 0 committed 0, 0 loaded 1 1, 0 halted", api.Block{Kind: api.BlockCommitted, First: 1, Last: 2}},
		{"0 begin 0, 0 aborted, 0 failed 4", api.Block{Kind: api.BlockAborted, Last: 1}},
		{"1 loaded 7 7, 0 begin 0, 1 failed 4, 0 read 0 18446744073709551615, 2 halted", api.Block{Kind: api.BlockOpen, First: 1, Last: 3, Reads: entries(0, top)}},
		{"0 begin 0, 0 write 18446744073709551615 18446744073709551615", api.Block{Kind: api.BlockOpen, Last: 1, Writes: entries(top, top)}},
	} {
		h := hist(x.text)
		cut(t, h, []api.Block{x.want})
		if x.want.Kind <= api.BlockFailed {
			ordered(t, h, 0)
		} else {
			ordered(t, h)
		}
	}
}

// P15.1: the number of each kind of block behind a Moved, and behind two.
func TestNumbersBehindMoved(t *testing.T) {
	const ahead = "0 begin 0, 1 begin 0, 1 write 0 1, 1 locked, 1 committed 1, 0 moved 2, 0 read 0 1, "
	const two = ahead + "2 begin 2, 2 write 0 2, 2 locked, 2 committed 2, 0 moved 4, "
	for _, x := range []struct {
		text string
		want api.Block
	}{
		{"0 committed 1", api.Block{Kind: api.BlockCommitted, Number: 1}},
		{"0 aborted", api.Block{Kind: api.BlockAborted, Number: 1}},
		{"0 failed 6", api.Block{Kind: api.BlockFailed, Number: 1, Err: api.ErrFuel}},
		{"0 stale", api.Block{Kind: api.BlockStale, Number: 1}},
		{"0 read 5 5", api.Block{Kind: api.BlockOpen, Number: 1, Reads: entries(5, 5)}},
		{"0 write 5 5, 0 locked", api.Block{Kind: api.BlockOpen, Number: 1, Writes: entries(5, 5)}},
		{"0 write 5 5, 0 locked, 0 committed 2", api.Block{Kind: api.BlockCommitted, Number: 2, Writing: true, Writes: entries(5, 5)}},
	} {
		h := hist(ahead + x.text)
		want := x.want
		want.Last = len(h) - 1
		want.Reads = append(entries(0, 1), want.Reads...)
		cut(t, h, []api.Block{want, {Thread: 1, Kind: api.BlockCommitted, First: 1, Last: 4, Number: 1, Writing: true, Writes: entries(0, 1)}})
	}
	for text, number := range map[string]uint64{"0 committed 2": 2, "0 aborted": 2, "0 failed 4": 2, "0 stale": 2, "0 read 1 1": 2, "0 write 1 1, 0 locked, 0 committed 3": 3} {
		if l, err := Blocks(hist(two + text)); err != api.OK || len(l) != 3 || l[0].Number != number || l[1].Number != 1 || l[2].Number != 2 {
			t.Errorf("%s: %+v, %v", text, l, err)
		}
	}
}

// P15.1: blocks side by side stand by their Begins, each with its own events; a thread has one behind the other.
func TestBlocksSideBySide(t *testing.T) {
	h := hist("7 begin 0, 2 begin 0, 7 read 0 5, 2 read 0 5, 2 write 0 6, 3 begin 0, 2 locked, 7 read 1 1, 2 committed 1, 3 stale, 3 begin 2, 7 stale, 2 halted, 7 begin 2, 3 read 0 6, 7 aborted, 7 begin 2, 3 committed 1, 7 failed 4, 3 begin 2")
	cut(t, h, []api.Block{
		{Thread: 7, Kind: api.BlockStale, First: 0, Last: 11, Reads: entries(0, 5, 1, 1)},
		{Thread: 2, Kind: api.BlockCommitted, First: 1, Last: 8, Number: 1, Writing: true, Reads: entries(0, 5), Writes: entries(0, 6)},
		{Thread: 3, Kind: api.BlockStale, First: 5, Last: 9},
		{Thread: 3, Kind: api.BlockCommitted, First: 10, Last: 17, Number: 1, Reads: entries(0, 6)},
		{Thread: 7, Kind: api.BlockAborted, First: 13, Last: 15, Number: 1},
		{Thread: 7, Kind: api.BlockFailed, First: 16, Last: 18, Number: 1, Err: api.ErrRange},
		{Thread: 3, Kind: api.BlockOpen, First: 19, Last: 19, Number: 1},
	})
	ordered(t, h, 1, 3, 4, 5)
}

// P15.1: the order by numbers; of one number the writing one first, then the others as their last Begin or Moved stands.
func TestOrder(t *testing.T) {
	for _, x := range []struct {
		text string
		want []int
	}{
		// Of one number: by Begins, whoever ends first.
		{"0 begin 0, 1 begin 0, 2 begin 0, 2 committed 0, 1 aborted, 0 failed 6", []int{0, 1, 2}},
		// By the last Moved, whoever began first.
		{"0 begin 0, 1 begin 0, 2 begin 0, 2 write 0 1, 2 locked, 2 committed 1, 1 moved 2, 0 moved 2, 0 committed 1, 1 committed 1", []int{2, 1, 0}},
		// A Begin and a Moved of one number.
		{"0 begin 0, 2 begin 0, 2 write 0 1, 2 locked, 2 committed 1, 1 begin 2, 0 moved 2, 0 aborted, 1 committed 1", []int{1, 2, 0}},
		// One that stays at its snapshot is ahead of what was written since, though it ends later.
		{"0 begin 0, 0 read 0 0, 1 begin 0, 1 write 0 1, 1 locked, 1 committed 1, 2 begin 2, 2 write 0 2, 2 locked, 2 committed 2, 0 committed 0", []int{0, 1, 2}},
		// DOC.md's example 4: number 1, one that read alone at the snapshot 2, number 2.
		{"0 begin 0, 0 write 0 1, 0 locked, 0 committed 1, 1 begin 2, 2 begin 2, 2 write 0 2, 2 locked, 2 committed 2, 1 committed 1", []int{0, 1, 2}},
		// A writing one that moved stands by its Committed's number, not by its snapshot's.
		{"0 begin 0, 1 begin 0, 1 write 0 1, 1 locked, 1 committed 1, 0 moved 2, 2 begin 2, 0 write 1 1, 0 locked, 0 committed 2, 2 committed 1", []int{1, 2, 0}},
		// The writing one is ahead of one of its number that began while it was open.
		{"1 begin 0, 0 begin 0, 0 write 0 1, 0 locked, 0 committed 1, 1 moved 2, 1 write 5 5, 1 aborted, 2 begin 2, 2 committed 1", []int{1, 0, 2}},
		// Stale and open ones are in no order, one that holds the lock neither.
		{"0 begin 0, 1 begin 0, 2 begin 0, 3 begin 0, 1 committed 0, 0 stale, 2 write 0 1, 2 locked", []int{1}},
		{"0 begin 0, 0 stale, 0 begin 0, 0 stale, 0 begin 0", nil},
	} {
		ordered(t, hist(x.text), x.want...)
	}
}

// P15.1: many blocks of one thread, and of eight, in their order.
func TestManyBlocks(t *testing.T) {
	var h []api.Event
	var want []int
	for n := range uint64(3000) {
		at := int(n % 8)
		h = append(h, api.Event{Thread: at, Kind: api.Begin, Word: 2 * n}, api.Event{Thread: at, Kind: api.Write, Word: n}, api.Event{Thread: at, Kind: api.Locked}, api.Event{Thread: at, Kind: api.Committed, Word: n + 1})
		want = append(want, int(n))
	}
	ordered(t, h, want...)
	l, _ := Blocks(h)
	for n, b := range l {
		if !sameBlock(b, api.Block{Thread: n % 8, Kind: api.BlockCommitted, First: 4 * n, Last: 4*n + 3, Number: uint64(n) + 1, Writing: true, Writes: entries(0, uint64(n))}) {
			t.Fatalf("block %d is %+v", n, b)
		}
	}
	if len(l) != 3000 {
		t.Errorf("%d blocks", len(l))
	}
}

// P15.1: drawn histories and those of runs, up to each of some beginnings, against the model.
func TestAgainstTheModel(t *testing.T) {
	d := drawn(1)
	kinds := map[api.BlockKind]int{}
	ask := func(h []api.Event) {
		t.Helper()
		want := modelBlocks(h)
		cut(t, h, want)
		ordered(t, h, modelOrder(h)...)
		for _, b := range want {
			kinds[b.Kind]++
		}
	}
	for range 300 {
		h := d.history(60, 1+d.below(8), true)
		ask(h)
		ask(h[:d.below(len(h)+1)])
		o := run(t, d.script())
		ask(o.Events)
		ask(o.Events[:d.below(len(o.Events)+1)])
	}
	for kind := api.BlockCommitted; kind <= api.BlockOpen; kind++ {
		if kinds[kind] < 100 {
			t.Errorf("blocks: %v", kinds)
		}
	}
}
