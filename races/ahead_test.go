package races

import (
	"math"
	"slices"
	"testing"

	"parley/api"
	"parley/events"
)

// orderIs asks of some events, one of each point, for all that are ahead of others: pairs of places in the list.
func orderIs(t *testing.T, text string, points []int, want ...int) {
	t.Helper()
	h := hist(text)
	var got []int
	for a, e := range points {
		for b, f := range points {
			if Ahead(h, e, f) {
				got = append(got, a, b)
			}
		}
	}
	if !slices.Equal(got, want) {
		t.Errorf("%s, %v: %v, not %v", text, points, got, want)
	}
}

// P18.1, P18.5: of one thread the earlier point: plain accesses and blocks, that write, read alone, are aborted.
func TestAheadOfOneThread(t *testing.T) {
	orderIs(t, "0 loaded 1 1, 0 stored 1 1", []int{0, 1}, 0, 1)
	orderIs(t, "0 loaded 1 1, 0 begin 0, 0 committed 0, 0 loaded 1 1", []int{0, 1, 3}, 0, 1, 0, 2, 1, 2)
	orderIs(t, "0 begin 0, 0 aborted, 0 begin 0, 0 write 1 1, 0 locked, 0 committed 1, 0 begin 2, 0 committed 1, 0 begin 2, 0 failed 5", []int{0, 2, 6, 8}, 0, 1, 0, 2, 0, 3, 1, 2, 1, 3, 2, 3)
	// One that was given up stands between: it is no point, and parts nothing.
	orderIs(t, "0 loaded 1 1, 0 begin 0, 0 read 1 1, 0 stale, 0 stored 1 1", []int{0, 1, 2, 3, 4}, 0, 4)
}

// P18.1: of two blocks the one that stands ahead in the order, however their events stand.
func TestAheadByTheOrder(t *testing.T) {
	// Numbers 1 and 2.
	orderIs(t, "0 begin 0, 1 begin 0, 1 write 1 1, 0 write 2 1, 1 locked, 1 committed 1, 0 moved 2, 0 locked, 0 committed 2", []int{0, 1}, 1, 0)
	// One that read alone at the snapshot 0 is ahead of the number 1, though it ends behind it.
	orderIs(t, "0 begin 0, 1 begin 0, 1 write 1 1, 1 locked, 1 committed 1, 0 committed 0", []int{0, 1}, 0, 1)
	// Of one number the writing one first, then as their last Begin or Moved stands.
	orderIs(t, "0 begin 0, 2 begin 0, 1 begin 0, 1 write 1 1, 1 locked, 1 committed 1, 2 moved 2, 0 moved 2, 0 committed 1, 2 aborted", []int{0, 1, 2}, 1, 0, 2, 0, 2, 1)
	orderIs(t, "0 begin 0, 1 begin 0, 1 aborted, 0 committed 0", []int{0, 1}, 0, 1)
	orderIs(t, "0 begin 0, 1 begin 0, 1 failed 6, 0 committed 0", []int{0, 1}, 0, 1)
	// A stale one, and one that is open, stand in no order.
	orderIs(t, "0 begin 0, 0 stale, 1 begin 0, 1 committed 0, 2 begin 0", []int{0, 2, 4})
}

// P18.1: plain accesses of unlike threads are ordered by blocks alone: one at or behind the first, one at or ahead of the second.
func TestAheadOverOthers(t *testing.T) {
	orderIs(t, "0 stored 1 1, 1 loaded 1 1", []int{0, 1})
	orderIs(t, "0 stored 1 1, 0 begin 0, 0 committed 0, 1 loaded 1 1", []int{0, 1, 3}, 0, 1)
	orderIs(t, "0 stored 1 1, 1 begin 0, 1 committed 0, 1 loaded 1 1", []int{0, 1, 3}, 1, 2)
	orderIs(t, "0 stored 1 1, 0 begin 0, 0 committed 0, 1 begin 0, 1 committed 0, 1 loaded 1 1", []int{0, 1, 3, 5}, 0, 1, 0, 2, 0, 3, 1, 2, 1, 3, 2, 3)
	// The same time, but the blocks the other way round: nothing orders the plain ones.
	orderIs(t, "0 stored 1 1, 1 begin 0, 0 begin 0, 0 committed 0, 1 committed 0, 1 loaded 1 1", []int{0, 1, 2, 5}, 0, 2, 1, 2, 1, 3)
	// Over blocks of a third thread, and over plain accesses between.
	orderIs(t, "0 stored 1 1, 0 loaded 1 1, 0 begin 0, 0 aborted, 2 begin 0, 2 committed 0, 1 begin 0, 1 failed 4", []int{0, 1, 4, 6}, 0, 1, 0, 2, 0, 3, 1, 2, 1, 3, 2, 3)
	// Of the other thread's plain accesses those up to its block alone.
	orderIs(t, "0 stored 1 1, 0 begin 0, 0 committed 0, 0 stored 2 2, 1 loaded 2 2, 1 begin 0, 1 committed 0, 1 loaded 1 1", []int{0, 3, 4, 7}, 0, 1, 0, 3, 2, 3)
	// A stale block, and an open one, order nothing.
	orderIs(t, "0 stored 1 1, 0 begin 0, 0 stale, 1 begin 0, 1 committed 0, 1 loaded 1 1", []int{0, 5})
	orderIs(t, "1 begin 0, 1 committed 0, 0 stored 1 1, 0 begin 0, 0 write 2 2, 0 locked, 1 loaded 1 1", []int{2, 6})
	// A point whose events stand behind another one's may be ahead of it: one that reads alone, and ends late.
	h := hist("1 begin 0, 0 begin 0, 0 write 1 1, 0 locked, 0 committed 1, 0 stored 2 2, 1 read 2 0, 1 committed 0")
	aheadIs(t, h, 6, 5, true)
	aheadIs(t, h, 5, 6, false)
	racesAre(t, h)
}

// P18.1: an event stands for its whole point, whichever of its events it is; two of one point are not ahead of each other.
func TestAheadOfWholePoints(t *testing.T) {
	h := hist("0 begin 0, 1 begin 0, 0 read 1 1, 1 read 1 1, 0 write 2 2, 0 own 2 2, 0 locked, 0 committed 1, 1 moved 2, 1 write 3 3, 1 locked, 1 committed 2")
	first, second := []int{0, 2, 4, 5, 6, 7}, []int{1, 3, 8, 9, 10, 11}
	for _, e := range first {
		for _, f := range second {
			aheadIs(t, h, e, f, true)
			aheadIs(t, h, f, e, false)
		}
	}
	for _, l := range [][]int{first, second} {
		for _, e := range l {
			for _, f := range l {
				aheadIs(t, h, e, f, false)
			}
		}
	}
}

// P18.1: numbers of no events, and events that belong to no point.
func TestAheadOfNone(t *testing.T) {
	h := hist("0 begin 0, 0 committed 0, 1 begin 0, 1 read 1 1, 1 stale, 0 stored 1 1, 2 begin 0, 2 write 5 5, 2 locked, 3 failed 4, 0 loaded 1 1, 0 halted")
	none := []int{2, 3, 4, 6, 7, 8, 9, 11, -1, -2, len(h), len(h) + 1, math.MaxInt, math.MinInt, math.MaxInt32 + 1, 1 << 32}
	for _, e := range none {
		for f := range h {
			aheadIs(t, h, e, f, false)
			aheadIs(t, h, f, e, false)
		}
		for _, f := range none {
			aheadIs(t, h, e, f, false)
		}
	}
	aheadIs(t, h, 0, 5, true)
	aheadIs(t, h, 5, 10, true)
	aheadIs(t, h, 1, 10, true)
	for _, e := range []int{0, -1, 1, math.MaxInt} {
		aheadIs(t, nil, e, 0, false)
		aheadIs(t, nil, 0, e, false)
		aheadIs(t, []api.Event{}, e, e, false)
	}
}

// P18.1: all histories that can be of a few events of two threads and one address, against the model; the same of races and of Told.
func TestSmallHistories(t *testing.T) {
	var turns []api.Event
	for thread := range 2 {
		for _, e := range []api.Event{{Kind: api.Begin}, {Kind: api.Begin, Word: 2}, {Kind: api.Read, Word: 1}, {Kind: api.Write, Word: 2}, {Kind: api.Moved, Word: 2}, {Kind: api.Locked}, {Kind: api.Committed}, {Kind: api.Committed, Word: 1}, {Kind: api.Aborted}, {Kind: api.Stale}, {Kind: api.Loaded}, {Kind: api.Stored, Word: 3}} {
			e.Thread = thread
			turns = append(turns, e)
		}
	}
	count := 0
	var grow func(h []api.Event, most int)
	grow = func(h []api.Event, most int) {
		if events.Check(h).Err != api.OK {
			return
		}
		if most == 0 || len(h) < 5 {
			m := agrees(t, []uint64{9}, h)
			for e := range h { // of shorter ones all pairs, then those with the last event
				for f := range h {
					if len(h) < 5 || e == len(h)-1 || f == len(h)-1 {
						aheadIs(t, h, e, f, m.ahead(e, f))
					}
				}
			}
			count++
		}
		if most == 0 || t.Failed() {
			return
		}
		for _, e := range turns {
			if len(h) == 0 && e.Thread > 0 {
				continue // the same with the threads exchanged
			}
			grow(append(slices.Clip(h), e), most-1)
		}
	}
	grow(nil, 6)
	if count < 50000 {
		t.Errorf("%d histories", count)
	}
}

// P18.1: drawn histories, and those of runs, against the model: of each event and each one.
func TestAheadDrawn(t *testing.T) {
	d := drawn(2)
	ordered, unordered := 0, 0
	for n := range 70 {
		h := d.history(40, 1+d.below(8), 1+d.below(3))
		if n%3 == 0 {
			h = few(run(t, d.script(200)).Events)
		}
		m := modeled(h)
		for e := range h {
			for f := range h {
				want := m.ahead(e, f)
				aheadIs(t, h, e, f, want)
				if want {
					ordered++
				} else if m.of[e] >= 0 && m.of[f] >= 0 && !m.ahead(f, e) {
					unordered++
				}
			}
		}
		if t.Failed() {
			return
		}
	}
	if ordered < 3000 || unordered < 3000 {
		t.Errorf("%d ahead, %d of no order", ordered, unordered)
	}
}
