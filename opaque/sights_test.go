package opaque

import (
	"slices"
	"testing"

	"parley/api"
)

// see is an attempt of a thread, from one place to another one, with its reads and writes, and its From, Upto and At.
func see(thread, begin, last int, snapshot uint64, how api.EventKind, reads, writes, from, upto, at int) api.Sight {
	return api.Sight{Try: api.Try{Thread: thread, First: begin, Last: last, Snapshot: snapshot, How: how, Reads: reads, Writes: writes}, From: from, Upto: upto, At: at}
}

// P16.2: of no attempts.
func TestNoAttempts(t *testing.T) {
	for _, h := range [][]api.Event{nil, {}, hist("0 halted"), hist("7 failed 4, 0 halted")} {
		sights(t, []uint64{5}, h)
		checks(t, []uint64{5}, h, -1)
	}
}

// P16.2: one attempt alone, however it ended.
func TestOneAttempt(t *testing.T) {
	first := []uint64{5, 6}
	for _, x := range []struct {
		text string
		want api.Sight
	}{
		{"3 begin 0", see(3, 0, 0, 0, 0, 0, 0, 0, 0, 0)},
		{"0 begin 0, 0 committed 0", see(0, 0, 1, 0, api.Committed, 0, 0, 0, 0, 0)},
		{"0 begin 0, 0 read 0 5, 0 read 1 6, 0 committed 0", see(0, 0, 3, 0, api.Committed, 2, 0, 0, 0, 0)},
		{"0 begin 0, 0 read 0 5, 0 read 1 5, 0 committed 0", see(0, 0, 3, 0, api.Committed, 2, 0, 0, 0, -1)},
		{"0 begin 0, 0 read 0 6, 0 aborted", see(0, 0, 2, 0, api.Aborted, 1, 0, 0, 0, -1)},
		{"0 begin 0, 0 read 0 5, 0 aborted", see(0, 0, 2, 0, api.Aborted, 1, 0, 0, 0, 0)},
		{"0 begin 0, 0 read 1 6, 0 failed 6", see(0, 0, 2, 0, api.Failed, 1, 0, 0, 0, 0)},
		{"0 begin 0, 0 read 1 7, 0 failed 4", see(0, 0, 2, 0, api.Failed, 1, 0, 0, 0, -1)},
		{"0 begin 0, 0 read 1 6, 0 stale", see(0, 0, 2, 0, api.Stale, 1, 0, 0, 0, 0)},
		{"0 begin 0, 0 read 1 0, 0 stale", see(0, 0, 2, 0, api.Stale, 1, 0, 0, 0, -1)},
		{"0 begin 0, 0 read 1 6, 0 read 1 6", see(0, 0, 2, 0, 0, 2, 0, 0, 0, 0)},
		{"0 begin 0, 0 read 1 6, 0 read 1 7", see(0, 0, 2, 0, 0, 2, 0, 0, 0, -1)},
		{"0 halted, 1 begin 0, 1 read 0 5", see(1, 1, 2, 0, 0, 1, 0, 0, 0, 0)},
		// The last event is itself a writing commit: it is among those up to it, though what was read is so no more behind it.
		{"0 begin 0, 0 write 0 7, 0 locked, 0 committed 1", see(0, 0, 3, 0, api.Committed, 0, 1, 0, 1, 1)},
		{"0 begin 0, 0 read 0 5, 0 write 0 7, 0 locked, 0 committed 1", see(0, 0, 4, 0, api.Committed, 1, 1, 0, 1, 0)},
		{"0 begin 0, 0 read 0 5, 0 write 1 7, 0 locked, 0 committed 1", see(0, 0, 4, 0, api.Committed, 1, 1, 0, 1, 1)},
		{"0 begin 0, 0 read 0 5, 0 write 0 5, 0 locked, 0 committed 1", see(0, 0, 4, 0, api.Committed, 1, 1, 0, 1, 1)},
		{"0 begin 0, 0 read 0 7, 0 write 0 7, 0 locked, 0 committed 1", see(0, 0, 4, 0, api.Committed, 1, 1, 0, 1, 1)},
		{"0 begin 0, 0 read 0 8, 0 write 0 7, 0 locked, 0 committed 1", see(0, 0, 4, 0, api.Committed, 1, 1, 0, 1, -1)},
		// One that holds the lock has not committed yet.
		{"0 begin 0, 0 read 0 7, 0 write 0 7, 0 locked", see(0, 0, 3, 0, 0, 1, 1, 0, 0, -1)},
		{"0 begin 0, 0 read 0 5, 0 write 0 7, 0 locked", see(0, 0, 3, 0, 0, 1, 1, 0, 0, 0)},
		// Own reads are left out, whatever stands in the cells.
		{"0 begin 0, 0 write 0 9, 0 own 0 9", see(0, 0, 2, 0, 0, 0, 1, 0, 0, 0)},
		{"0 begin 0, 0 write 0 9, 0 own 0 9, 0 read 1 6, 0 write 0 8, 0 own 0 8, 0 locked, 0 committed 1", see(0, 0, 7, 0, api.Committed, 1, 2, 0, 1, 1)},
		{"0 begin 0, 0 write 0 9, 0 own 0 9, 0 read 1 9, 0 aborted", see(0, 0, 4, 0, api.Aborted, 1, 1, 0, 0, -1)},
		// What is written by one that was given up never stood there.
		{"0 begin 0, 0 read 0 9, 0 write 0 9, 0 aborted", see(0, 0, 3, 0, api.Aborted, 1, 1, 0, 0, -1)},
	} {
		h := hist(x.text)
		sights(t, first, h, x.want)
		checks(t, first, h, slices.Index([]int{x.want.At}, -1))
	}
}

// chain is writing commits of the thread 7, each of which sets the cell 0 to a word; they begin behind so many.
func chain(behind int, words ...uint64) []api.Event {
	var h []api.Event
	for n, w := range words {
		number := uint64(behind + n)
		h = append(h, api.Event{Thread: 7, Kind: api.Begin, Word: 2 * number}, api.Event{Thread: 7, Kind: api.Write, Word: w}, api.Event{Thread: 7, Kind: api.Locked}, api.Event{Thread: 7, Kind: api.Committed, Word: number + 1})
	}
	return h
}

// P16.2: the words of an attempt stood together at one number, at several, at none; the greatest from From to Upto is told.
func TestAt(t *testing.T) {
	// The cell 0 is 5 at 0 and 2, 6 at 1 and 4, 7 at 3; the attempt begins behind some of the commits and ends behind others.
	first, words := []uint64{5, 1}, []uint64{6, 5, 7, 6}
	stood := map[uint64][]int{5: {0, 2}, 6: {1, 4}, 7: {3}, 8: nil}
	for from := range 5 {
		for upto := from; upto < 5; upto++ {
			for word, numbers := range stood {
				for _, other := range []uint64{1, 0} {
					h := append(chain(0, words[:from]...), api.Event{Kind: api.Begin, Word: 2 * uint64(from)})
					h = append(h, chain(from, words[from:upto]...)...)
					h = append(h, api.Event{Kind: api.Read, Word: word}, api.Event{Kind: api.Read, Addr: 1, Word: other}, api.Event{Kind: api.Stale})
					h = append(h, chain(upto, words[upto:]...)...)
					at := -1
					for _, n := range numbers {
						if n >= from && n <= upto && other == 1 {
							at = n
						}
					}
					l, odd := Sights(first, h)
					if want := see(0, 4*from, 4*upto+3, 2*uint64(from), api.Stale, 2, 0, from, upto, at); odd != fine || len(l) != 5 || l[from] != want {
						t.Errorf("%d at %d to %d: %+v, %v, not %+v", word, from, upto, l, odd, want)
					}
					want := -1
					if at < 0 {
						want = from
					}
					checks(t, first, h, want)
				}
			}
		}
	}
}

// P16.2: attempts that have read nothing have Upto for At.
func TestNothingRead(t *testing.T) {
	first := []uint64{5}
	h := append(hist("0 begin 0, 1 begin 0, 2 begin 0, 2 committed 0"), chain(0, 6, 7, 8)...)
	h = append(h, hist("0 stale, 1 moved 6, 2 begin 6, 2 aborted")...)
	l, odd := Sights(first, h)
	if odd != fine || len(l) != 7 || l[0] != see(0, 0, 16, 0, api.Stale, 0, 0, 0, 3, 3) || l[1] != see(1, 1, 17, 6, 0, 0, 0, 0, 3, 3) ||
		l[2] != see(2, 2, 3, 0, api.Committed, 0, 0, 0, 0, 0) || l[6] != see(2, 18, 19, 6, api.Aborted, 0, 0, 3, 3, 3) {
		t.Errorf("%+v, %v", l, odd)
	}
	checks(t, first, h, -1)
}

// P16.2: attempts side by side stand by their first events, each with its own reads; commits that stand behind its last event do not count for it.
func TestSideBySide(t *testing.T) {
	first := []uint64{5, 6}
	h := hist("2 begin 0, 0 begin 0, 2 read 0 5, 0 read 0 5, 1 begin 0, 0 write 0 7, 1 read 1 6, 0 locked, 1 read 0 5, 2 stale, 0 committed 1, 1 moved 2, 1 read 0 7, 2 begin 2, 2 read 0 7, 2 write 1 9, 2 locked, 2 committed 2, 1 stale, 0 begin 4, 1 begin 4, 1 read 1 9, 1 committed 2, 0 read 1 6")
	sights(t, first, h,
		see(2, 0, 9, 0, api.Stale, 1, 0, 0, 0, 0),
		see(0, 1, 10, 0, api.Committed, 1, 1, 0, 1, 0),
		see(1, 4, 18, 2, api.Stale, 3, 0, 0, 2, -1), // it has read 5 and 7 of one cell
		see(2, 13, 17, 2, api.Committed, 1, 1, 1, 2, 2),
		see(0, 19, 23, 4, 0, 1, 0, 2, 2, -1), // 6 stood there ahead of its beginning alone
		see(1, 20, 22, 4, api.Committed, 1, 0, 2, 2, 2),
	)
	checks(t, first, h, 2)
}

// P16.2: Check tells the first of several by its place among the attempts, not in the history, nor by its end.
func TestCheckTellsTheFirst(t *testing.T) {
	first := []uint64{5}
	for text, want := range map[string]int{
		"0 begin 0, 1 begin 0, 2 begin 0, 2 read 0 1, 1 read 0 1":                                    1,
		"0 begin 0, 1 begin 0, 2 begin 0, 2 read 0 1, 2 stale, 1 read 0 5, 0 read 0 5":               2,
		"0 begin 0, 1 begin 0, 1 read 0 1, 1 committed 0, 0 read 0 9":                                0,
		"0 begin 0, 0 stale, 0 begin 0, 0 committed 0, 1 begin 0, 1 read 0 5, 0 begin 0":             -1,
		"0 begin 0, 0 stale, 0 begin 0, 0 committed 0, 1 begin 0, 1 read 0 5, 0 begin 0, 0 read 0 4": 3,
	} {
		checks(t, first, hist(text), want)
	}
}

// P16.2 and P16.3: drawn histories, those of runs, and such with words changed, against the model.
func TestAgainstTheModel(t *testing.T) {
	d := drawn(1)
	hows, ats := map[api.EventKind]int{}, map[string]int{}
	ask := func(first []uint64, h []api.Event) {
		t.Helper()
		d.agrees(t, first, h)
		for _, s := range modelSights(first, h) {
			hows[s.How]++
			switch {
			case s.At < 0:
				ats["none"]++
			case s.From == s.Upto:
				ats["the only one"]++
			case s.At == s.Upto:
				ats["the last one"]++
			case s.At == s.From:
				ats["the first one"]++
			default:
				ats["between"]++
			}
		}
	}
	for range 400 {
		cells := 1 + d.below(4)
		ask(d.first(cells), d.history(20+d.below(200), 1+d.below(8), cells))
		s := d.script()
		h := run(t, s)
		ask(allFirst(s), h)
		if h, ok := d.changed(h); ok {
			ask(allFirst(s), h)
		}
	}
	for _, how := range []api.EventKind{0, api.Committed, api.Stale, api.Aborted, api.Failed} {
		if hows[how] < 100 {
			t.Errorf("attempts: %v", hows)
		}
	}
	for _, at := range []string{"none", "the only one", "the last one", "the first one", "between"} {
		if ats[at] < 30 {
			t.Errorf("sights: %v", ats)
		}
	}
}

// P16.2: all small histories of two threads over one cell against the model.
func TestSmallHistories(t *testing.T) {
	d := drawn(2)
	var kinds []api.Event
	for thread := range 2 {
		for _, e := range hist("0 begin 0, 0 begin 2, 0 read 0 0, 0 read 0 1, 0 write 0 1, 0 own 0 1, 0 moved 2, 0 locked, 0 committed 0, 0 committed 1, 0 stale") {
			e.Thread = thread
			kinds = append(kinds, e)
		}
	}
	count := 0
	var grow func(h []api.Event, left int)
	grow = func(h []api.Event, left int) {
		count++
		if d.agrees(t, []uint64{0}, h); left == 0 || t.Failed() {
			return
		}
		for _, e := range kinds {
			if with := append(slices.Clip(h), e); answers([]uint64{0}, with, 0)["Check"].odd == fine {
				grow(with, left-1)
			}
		}
	}
	grow(nil, 6)
	if count < 5000 {
		t.Errorf("no more than %d histories", count)
	}
}
