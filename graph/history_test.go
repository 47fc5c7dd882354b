package graph

import (
	"slices"
	"testing"

	"parley/api"
	"parley/events"
)

// done is a committed attempt.
func done(thread, first, last int, snapshot uint64, reads, writes int) api.Try {
	return api.Try{Thread: thread, First: first, Last: last, Snapshot: snapshot, How: api.Committed, Reads: reads, Writes: writes}
}

// told are edges with their kinds, each three numbers: From, To, Kind.
func told(l ...int) []api.Edge {
	var out []api.Edge
	for n := 0; n < len(l); n += 3 {
		out = append(out, api.Edge{From: l[n], To: l[n+1], Kind: api.EdgeKind(l[n+2])})
	}
	return out
}

// hasEdges asks for the edges of a history alone.
func hasEdges(t *testing.T, text string, want ...int) {
	t.Helper()
	nodes, l, err := Of(hist(text))
	if err != api.OK || !slices.Equal(l, told(want...)) {
		t.Errorf("Of of %s answers %+v, %v, %v, not %v", text, nodes, l, err, told(want...))
	}
}

// P17.1: the nodes are the attempts that committed, in the order of their Committed events; all others are left out.
func TestNodes(t *testing.T) {
	for _, h := range [][]api.Event{nil, {}, hist("0 begin 0"), hist("0 begin 0, 0 read 1 5, 0 stale"), hist("0 begin 0, 0 write 1 5, 0 aborted"), hist("0 begin 0, 0 failed 5"), hist("0 begin 0, 0 write 1 5, 0 locked"), hist("0 loaded 1 5, 0 stored 1 6, 1 failed 4, 0 halted")} {
		graphOf(t, h, nil)
	}
	graphOf(t, hist("7 begin 0, 7 committed 0"), []api.Try{done(7, 0, 1, 0, 0, 0)})
	// Those that began first commit last.
	graphOf(t, hist("2 begin 0, 1 begin 0, 0 begin 0, 0 committed 0, 1 committed 0, 2 committed 0"), []api.Try{done(0, 2, 3, 0, 0, 0), done(1, 1, 4, 0, 0, 0), done(2, 0, 5, 0, 0, 0)})
	// Reads and Writes are counted by their events, the last snapshot is told, Own ones are no Reads.
	graphOf(t, hist("0 begin 0, 1 begin 0, 1 read 2 9, 1 read 2 9, 1 write 5 1, 1 write 5 2, 1 own 5 2, 1 locked, 1 committed 1, 0 moved 2, 0 read 3 3, 0 committed 1"), []api.Try{done(1, 1, 8, 0, 2, 2), done(0, 0, 11, 2, 1, 0)})
	// Attempts that are given up stand between those that are not, and one is open at the end.
	graphOf(t, hist("0 begin 0, 0 write 1 1, 0 stale, 0 begin 0, 0 write 1 1, 0 aborted, 0 begin 0, 0 read 2 1, 0 committed 0, 1 begin 0, 0 begin 0, 0 read 4 4, 0 committed 0, 0 begin 0, 1 read 1 1, 1 committed 0"),
		[]api.Try{done(0, 6, 8, 0, 1, 0), done(0, 10, 12, 0, 1, 0), done(1, 9, 15, 0, 1, 0)}, told(0, 1, 1, 0, 2, 1)...)
}

// P17.1: EdgeTime, where one is over ahead of the other one's Begin, by one event; and not where it is not.
func TestEdgeTime(t *testing.T) {
	hasEdges(t, "0 begin 0, 0 committed 0, 1 begin 0, 1 committed 0", 0, 1, 1)
	hasEdges(t, "0 begin 0, 1 begin 0, 0 committed 0, 1 committed 0")
	hasEdges(t, "0 begin 0, 1 begin 0, 1 committed 0, 0 committed 0")
	hasEdges(t, "1 begin 0, 0 begin 0, 0 committed 0, 1 committed 0")
	// Of one thread all that are ahead, not the last one alone.
	hasEdges(t, "0 begin 0, 0 committed 0, 0 begin 0, 0 committed 0, 0 begin 0, 0 committed 0", 0, 1, 1, 0, 2, 1, 1, 2, 1)
	// Not by way of attempts that were given up.
	hasEdges(t, "0 begin 0, 1 begin 0, 0 committed 0, 1 stale, 2 begin 0, 1 begin 0, 2 committed 0, 1 committed 0", 0, 1, 1, 0, 2, 1)
	// A Moved is no Begin.
	hasEdges(t, "1 begin 0, 0 begin 0, 0 write 5 1, 0 locked, 0 committed 1, 1 moved 2, 1 committed 1")
}

// writer is a writing commit of a thread, behind so many of them, of some addresses.
func writer(thread int, behind uint64, addrs ...uint64) []api.Event {
	h := []api.Event{{Thread: thread, Kind: api.Begin, Word: 2 * behind}}
	for _, a := range addrs {
		h = append(h, api.Event{Thread: thread, Kind: api.Write, Addr: a, Word: 1})
	}
	return append(h, api.Event{Thread: thread, Kind: api.Locked}, api.Event{Thread: thread, Kind: api.Committed, Word: behind + 1})
}

// P17.1: EdgeWrite of two that write one address, whichever of theirs, once for several; by their numbers; not of those that write others, read it, or are given up.
func TestEdgeWrite(t *testing.T) {
	const open = "0 begin 0, 1 begin 0, "
	hasEdges(t, open+"0 write 5 1, 1 write 5 1, 0 locked, 0 committed 1, 1 moved 2, 1 locked, 1 committed 2", 0, 1, 2)
	hasEdges(t, open+"0 write 5 1, 1 write 6 1, 0 locked, 0 committed 1, 1 moved 2, 1 locked, 1 committed 2")
	hasEdges(t, open+"0 write 5 1, 0 write 6 1, 0 write 5 2, 1 write 7 1, 1 write 6 1, 1 write 5 1, 0 locked, 0 committed 1, 1 moved 2, 1 locked, 1 committed 2", 0, 1, 2)
	hasEdges(t, open+"0 write 0 1, 1 write 18446744073709551615 1, 1 write 0 1, 1 locked, 1 committed 1, 0 moved 2, 0 locked, 0 committed 2", 0, 1, 2)
	hasEdges(t, open+"0 write 5 1, 1 write 5 1, 0 aborted, 1 locked, 1 committed 1")
	hasEdges(t, open+"0 write 5 1, 1 write 5 1, 1 own 5 1, 0 locked, 0 committed 1, 1 stale")
	hasEdges(t, open+"0 write 5 1, 1 write 5 1, 0 locked, 0 committed 1, 1 moved 2, 1 locked")
	// Of three writers each pair, not neighbours alone.
	h := slices.Concat(writer(0, 0, 5), writer(1, 1, 6), writer(2, 2, 5), writer(3, 3, 5, 6))
	_, l, _ := Of(h)
	if want := told(0, 1, 1, 0, 2, 1, 0, 2, 2, 0, 3, 1, 0, 3, 2, 1, 2, 1, 1, 3, 1, 1, 3, 2, 2, 3, 1, 2, 3, 2); !slices.Equal(l, want) {
		t.Errorf("%v, not %v", l, want)
	}
}

// threeWriters lets the thread 7 write the address 5 as the numbers 1 and 3, and 6 as number 2, with other events between; the nodes of these come first or not, as the others stand.
func threeWriters(ahead, one, two, behind string) string {
	parts := func(s string) string {
		if s == "" {
			return ""
		}
		return s + ", "
	}
	return parts(ahead) + "7 begin 0, 7 write 5 1, 7 locked, 7 committed 1, " + parts(one) + "7 begin 2, 7 write 6 1, 7 locked, 7 committed 2, " + parts(two) + "7 begin 4, 7 write 5 1, 7 locked, 7 committed 3" + behind
}

// P17.1: EdgeSeen of the last writer that is not above the view, EdgeUnseen of the first one above it.
func TestEdgesOfReads(t *testing.T) {
	// The edges between the three writers themselves, the nodes x, y, z.
	among := func(x, y, z int) []api.Edge { return told(x, y, 1, x, z, 1, x, z, 2, y, z, 1) }
	asked := func(text string, own []api.Edge, want ...int) {
		t.Helper()
		h := hist(text)
		_, l, err := Of(h)
		all := append(own, told(want...)...)
		slices.SortFunc(all, func(a, b api.Edge) int {
			return slices.Compare([]int{a.From, a.To, int(a.Kind)}, []int{b.From, b.To, int(b.Kind)})
		})
		if err != api.OK || !slices.Equal(l, all) {
			t.Errorf("Of of %s answers %v, %v, not %v", text, l, err, all)
		}
	}
	// Read at the view 0: nobody was seen; the first writer was not.
	asked(threeWriters("0 begin 0", "", "", ", 0 read 5 0, 0 committed 0"), among(0, 1, 2), 3, 0, 4)
	asked(threeWriters("0 begin 0", "", "", ", 0 read 6 0, 0 committed 0"), among(0, 1, 2), 3, 1, 4)
	// At the view 1, just as that number was committed: that writer was seen, and the third one was not.
	asked(threeWriters("0 begin 0", "0 moved 2", "", ", 0 read 5 0, 0 committed 1"), among(0, 1, 2), 0, 3, 3, 3, 2, 4)
	asked(threeWriters("0 begin 0", "0 moved 2", "", ", 0 read 6 0, 0 committed 1"), among(0, 1, 2), 3, 1, 4)
	// At the view 2, at which another address was written: the same of the address 5.
	asked(threeWriters("0 begin 0", "0 moved 2", "0 moved 4", ", 0 read 5 0, 0 committed 2"), among(0, 1, 2), 0, 3, 3, 3, 2, 4)
	asked(threeWriters("0 begin 0", "0 moved 2", "0 moved 4", ", 0 read 6 0, 0 committed 2"), among(0, 1, 2), 1, 3, 3)
	// Both addresses: an edge of each; the view is the last snapshot's, wherever the Read stands.
	asked(threeWriters("0 begin 0, 0 read 5 0, 0 read 6 0", "0 moved 2", "0 moved 4", ", 0 committed 2"), among(0, 1, 2), 0, 3, 3, 1, 3, 3, 3, 2, 4)
	// At the view 3 nothing is unseen, and the writer of number 1 is not the last one.
	asked(threeWriters("0 begin 0", "", "", ", 0 moved 6, 0 read 5 0, 0 read 6 0, 0 read 7 0, 0 committed 3"), among(0, 1, 2), 1, 3, 3, 2, 3, 3)
	// A reader that commits at once, ahead of the writers' commits.
	asked(threeWriters("0 begin 0, 0 read 5 0, 0 committed 0", "", "", ""), among(1, 2, 3), 0, 1, 1, 0, 1, 4, 0, 2, 1, 0, 3, 1)
	// Reads of attempts that are given up or open, and plain ones, make no edges.
	asked(threeWriters("0 begin 0, 0 read 5 0, 1 loaded 5 0", "0 stale, 0 begin 2, 0 read 6 0, 1 stored 5 0", "0 aborted, 0 begin 4, 0 read 5 1", ""), among(0, 1, 2))
}

// P17.1: never the reader itself: one that reads and writes an address has not seen, and is not unseen by, itself.
func TestReaderWrites(t *testing.T) {
	hasEdges(t, "0 begin 0, 0 read 5 0, 0 write 5 1, 0 locked, 0 committed 1")
	// The next writer is the unseen one.
	hasEdges(t, "1 begin 0, 0 begin 0, 0 read 5 0, 0 write 5 1, 0 locked, 0 committed 1, 1 write 5 2, 1 moved 2, 1 locked, 1 committed 2", 0, 1, 2, 0, 1, 4)
	// And of one that writes another address the next one that writes this one.
	hasEdges(t, "1 begin 0, 0 begin 0, 0 read 5 0, 0 write 6 1, 0 locked, 0 committed 1, 1 write 5 2, 1 moved 2, 1 locked, 1 committed 2", 0, 1, 4)
	// Seen is the one ahead; its view is one below its number.
	hasEdges(t, "0 begin 0, 1 begin 0, 0 write 5 1, 0 locked, 0 committed 1, 1 moved 2, 1 read 5 1, 1 write 5 2, 1 locked, 1 committed 2", 0, 1, 2, 0, 1, 3)
	// Two that both read and write, one behind the other, and a third one that reads alone in between.
	hasEdges(t, "0 begin 0, 1 begin 0, 2 begin 0, 0 read 5 0, 0 write 5 1, 0 locked, 0 committed 1, 1 moved 2, 2 moved 2, 1 read 5 1, 2 read 5 1, 1 write 5 2, 1 locked, 1 committed 2, 2 committed 1",
		0, 1, 2, 0, 1, 3, 0, 1, 4, 0, 2, 3, 2, 1, 4)
}

// P17.1: Own reads are left out.
func TestOwnReads(t *testing.T) {
	hasEdges(t, "1 begin 0, 0 begin 0, 0 write 5 1, 0 own 5 1, 0 locked, 0 committed 1, 1 write 6 1, 1 moved 2, 1 locked, 1 committed 2")
	hasEdges(t, "0 begin 0, 1 begin 0, 0 write 5 1, 0 locked, 0 committed 1, 1 write 5 2, 1 own 5 2, 1 moved 2, 1 locked, 1 committed 2", 0, 1, 2)
	// What was read ahead of one's own Write is none.
	hasEdges(t, "0 begin 0, 1 begin 0, 0 write 5 1, 0 locked, 0 committed 1, 1 moved 2, 1 read 5 2, 1 write 5 2, 1 own 5 2, 1 locked, 1 committed 2", 0, 1, 2, 0, 1, 3)
}

// P17.1: several kinds between the same two nodes, each once however many addresses make it; by From, then by To, then by Kind.
func TestSeveralKinds(t *testing.T) {
	hasEdges(t, "0 begin 0, 0 read 5 0, 0 read 6 0, 0 write 5 1, 0 write 6 1, 0 locked, 0 committed 1, 0 begin 2, 0 read 5 0, 0 read 6 0, 0 read 5 0, 0 write 5 1, 0 write 6 1, 0 write 5 2, 0 locked, 0 committed 2",
		0, 1, 1, 0, 1, 2, 0, 1, 3, 0, 1, 4)
	// From a later node to an earlier one.
	hasEdges(t, "0 begin 0, 1 begin 0, 0 read 5 0, 1 read 6 0, 1 write 5 1, 1 locked, 1 committed 1, 0 committed 0", 1, 0, 4)
	// The same between other edges.
	hasEdges(t, "3 begin 0, 3 read 5 0, 3 read 6 0, 0 begin 0, 0 write 6 1, 0 locked, 0 committed 1, 1 begin 2, 1 write 5 1, 1 locked, 1 committed 2, 2 begin 4, 2 read 6 1, 2 read 5 1, 2 committed 2, 3 committed 0",
		0, 1, 1, 0, 2, 1, 0, 2, 3, 1, 2, 1, 1, 2, 3, 3, 0, 4, 3, 1, 4)
}

// P17.1: all histories that can be of a few events of two threads and one address.
func TestSmallHistories(t *testing.T) {
	var turns []api.Event
	for thread := range 2 {
		for _, e := range []api.Event{{Kind: api.Begin}, {Kind: api.Begin, Word: 2}, {Kind: api.Read}, {Kind: api.Write}, {Kind: api.Moved, Word: 2}, {Kind: api.Locked}, {Kind: api.Committed}, {Kind: api.Committed, Word: 1}, {Kind: api.Committed, Word: 2}} {
			e.Thread = thread
			turns = append(turns, e)
		}
	}
	count := 0
	var grow func(h []api.Event, most int)
	grow = func(h []api.Event, most int) {
		if events.Check(h).Err != api.OK {
			return
		}
		nodes, l := modelOf(h)
		graphOf(t, h, nodes, l...)
		count++
		if most == 0 || t.Failed() {
			return
		}
		for _, e := range turns {
			grow(append(slices.Clip(h), e), most-1)
		}
	}
	grow(nil, 8)
	if count < 10000 {
		t.Errorf("%d histories", count)
	}
}

// P17.1: drawn histories, and those of runs, against the model.
func TestHistories(t *testing.T) {
	d := drawn(1)
	kinds := map[api.EdgeKind]int{}
	nodes := 0
	for n := range 1500 {
		h := d.history(120, 1+d.below(8))
		if n%3 == 0 {
			h = run(t, d.script(400))
		}
		tries, l := modelOf(h)
		graphOf(t, h, tries, l...)
		nodes += len(tries)
		for _, e := range l {
			kinds[e.Kind]++
		}
		if t.Failed() {
			return
		}
	}
	if nodes < 5000 || len(kinds) != 4 || kinds[api.EdgeTime] < 1000 || kinds[api.EdgeWrite] < 1000 || kinds[api.EdgeSeen] < 1000 || kinds[api.EdgeUnseen] < 1000 {
		t.Errorf("%d nodes, %v", nodes, kinds)
	}
}

// P17.1: more nodes than a stretch of words has bits, each of which writes one address and reads another one.
func TestManyNodes(t *testing.T) {
	const many = 1300
	var h []api.Event
	for n := range uint64(many) {
		h = append(h, api.Event{Kind: api.Begin, Word: 2 * n}, api.Event{Kind: api.Read, Addr: (n + 1) % 2}, api.Event{Kind: api.Write, Addr: n % 2}, api.Event{Kind: api.Locked}, api.Event{Kind: api.Committed, Word: n + 1})
	}
	var want []api.Edge
	for a := range many {
		for b := a + 1; b < many; b++ {
			want = append(want, api.Edge{From: a, To: b, Kind: api.EdgeTime})
			if (b-a)%2 == 0 {
				want = append(want, api.Edge{From: a, To: b, Kind: api.EdgeWrite})
			}
			if b == a+1 {
				want = append(want, api.Edge{From: a, To: b, Kind: api.EdgeSeen}, api.Edge{From: a, To: b, Kind: api.EdgeUnseen})
			}
		}
	}
	nodes, l, err := Of(h)
	if err != api.OK || len(nodes) != many || !slices.Equal(l, want) {
		t.Errorf("%d nodes, %d edges, %v", len(nodes), len(l), err)
	}
}

// Long blocks that write the same addresses, again and again, in no time that grows with what they repeat.
func TestLongBlocks(t *testing.T) {
	const blocks, addrs = 60, 3000
	var h []api.Event
	for n := range uint64(blocks) {
		h = append(h, api.Event{Kind: api.Begin, Word: 2 * n})
		for a := range uint64(addrs) {
			h = append(h, api.Event{Kind: api.Read, Addr: a})
		}
		for a := range uint64(5 * addrs) {
			h = append(h, api.Event{Kind: api.Write, Addr: a % addrs})
		}
		h = append(h, api.Event{Kind: api.Locked}, api.Event{Kind: api.Committed, Word: n + 1})
	}
	nodes, l, err := Of(h)
	// Each pair is in time and writes the same; neighbours have seen, and not seen, one another's words, too.
	if err != api.OK || len(nodes) != blocks || len(l) != blocks*(blocks-1)+2*(blocks-1) {
		t.Errorf("%d nodes, %d edges, %v", len(nodes), len(l), err)
	}
}
