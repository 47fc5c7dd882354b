package graph

import (
	"math"
	"slices"
	"testing"

	"parley/api"
	"parley/events"
)

// refused asks all calls that take a graph whether they take none of it, and answer nothing.
func refused(t *testing.T, n int, l ...api.Edge) {
	t.Helper()
	order, err := Order(n, l...)
	if err != api.ErrArg || order != nil {
		t.Errorf("Order of %d, %v answers %v, %v", n, few(l), few(order), err)
	}
	round, ok, err := Round(n, l...)
	if err != api.ErrArg || ok || round != nil {
		t.Errorf("Round of %d, %v answers %v, %v, %v", n, few(l), few(round), ok, err)
	}
	depths, err := Depths(n, l...)
	if err != api.ErrArg || depths != nil {
		t.Errorf("Depths of %d, %v answers %v, %v", n, few(l), few(depths), err)
	}
	needed, err := Needed(n, l...)
	if err != api.ErrArg || needed != nil {
		t.Errorf("Needed of %d, %v answers %v, %v", n, few(l), few(needed), err)
	}
	for _, from := range []int{0, n - 1, n, -1, 1} {
		noReach(t, n, from, l...)
	}
	for _, order := range [][]int{nil, {}, {0}, {0, 1}, {1, 0}, {0, 1, 2}} {
		if Keeps(n, order, l...) {
			t.Errorf("Keeps of %d, %v, %v", n, order, few(l))
		}
	}
}

// noReach asks Reach alone.
func noReach(t *testing.T, n, from int, l ...api.Edge) {
	t.Helper()
	if reach, err := Reach(n, from, l...); err != api.ErrArg || reach != nil {
		t.Errorf("Reach of %d, %d, %v answers %v, %v", n, from, few(l), few(reach), err)
	}
}

// P17.2: how many nodes there may be.
func TestCounts(t *testing.T) {
	for _, n := range []int{-1, -2, 65537, 65538, math.MaxInt32, math.MinInt32, math.MaxInt, math.MinInt} {
		refused(t, n)
		refused(t, n, edges(0, 1)...)
		refused(t, n, edges(0, 0, 1, 1)...)
	}
	ordered(t, 0, nil)
	found(t, 0, nil)
	deep(t, 0, nil)
	need(t, 0, nil)
	if !Keeps(0, nil) || !Keeps(0, []int{}) || Keeps(0, []int{0}) {
		t.Error("an order of no nodes")
	}
	for _, n := range []int{1, 2, 65535, 65536} {
		all := make([]int, n)
		for node := range all {
			all[node] = node
		}
		ordered(t, n, nil, all...)
		found(t, n, nil)
		deep(t, n, nil, make([]int, n)...)
		need(t, n, nil)
		reaches(t, n, n-1, nil, n-1)
		last := edges(0, n-1)
		if n == 1 {
			found(t, n, last, 0)
			continue
		}
		ordered(t, n, last, all...)
		found(t, n, last)
		need(t, n, last, 0)
		reaches(t, n, 0, last, 0, n-1)
		found(t, n, edges(n-1, n-1), 0)
		if !Keeps(n, all, last...) {
			t.Errorf("an order of %d nodes", n)
		}
	}
}

// P17.2: an edge's ends are nodes, whichever edge it is and whatever else there is, a round too.
func TestEnds(t *testing.T) {
	for _, n := range []int{0, 1, 2, 3, 65536} {
		for _, bad := range []int{-1, n, n + 1, -n - 1, math.MaxInt, math.MinInt, math.MaxInt32 + 1, 1 << 32} {
			for _, e := range []api.Edge{{From: bad}, {To: bad}, {From: bad, To: bad}, {From: bad, To: n - 1}, {From: n - 1, To: bad, Kind: api.EdgeSeen}} {
				refused(t, n, e)
				if n > 1 {
					refused(t, n, e, api.Edge{To: 1}, api.Edge{From: 1})
					refused(t, n, api.Edge{To: 1}, e, api.Edge{To: 1})
					refused(t, n, api.Edge{}, api.Edge{From: 1}, e)
				}
			}
		}
	}
	refused(t, 0, api.Edge{})
	refused(t, 1, edges(0, 1)...)
	refused(t, 1, edges(1, 0)...)
}

// P17.2: Reach's from is a node.
func TestFrom(t *testing.T) {
	for _, from := range []int{-1, 3, 4, math.MaxInt, math.MinInt} {
		noReach(t, 3, from)
		noReach(t, 3, from, edges(0, 1, 1, 0)...)
	}
	noReach(t, 0, 0)
	noReach(t, 65536, 65536)
	reaches(t, 3, 0, nil, 0)
	reaches(t, 3, 2, nil, 2)
}

// P17.3, P17.5, P17.6: ErrArg comes first, where there is a round, too.
func TestArgComesFirst(t *testing.T) {
	refused(t, 2, edges(0, 1, 1, 0, 0, 2)...)
	refused(t, 2, edges(0, 2, 0, 1, 1, 0)...)
	inRound(t, 2, edges(0, 1, 1, 0))
	noReach(t, 2, 2, edges(0, 1, 1, 0)...)
}

// Kinds are not looked at: any number may stand there, and none changes an answer.
func TestKinds(t *testing.T) {
	d := drawn(2)
	for range 300 {
		n := 1 + d.below(8)
		l := d.graph(n, d.below(15))
		bare := slices.Clone(l)
		for k := range bare {
			bare[k].Kind = 0
		}
		order, err := Order(n, bare...)
		round, ok, _ := Round(n, bare...)
		if got, gotErr := Order(n, l...); !slices.Equal(got, order) || gotErr != err {
			t.Errorf("Order of %v: %v, %v, not %v, %v", l, got, gotErr, order, err)
		}
		if got, gotOK, _ := Round(n, l...); !slices.Equal(got, round) || gotOK != ok {
			t.Errorf("Round of %v: %v, %v, not %v, %v", l, got, gotOK, round, ok)
		}
		needed, _ := Needed(n, bare...)
		if got, _ := Needed(n, l...); !slices.Equal(got, needed) {
			t.Errorf("Needed of %v: %v, not %v", l, got, needed)
		}
	}
	need(t, 2, told(0, 1, 1, 0, 1, 2, 0, 1, 0), 0)
}

// impossible are histories that can't be, some for each error that events.Check tells.
func impossible() map[api.Errno][][]api.Event {
	fine := hist("0 begin 0, 0 read 1 5, 0 committed 0, 1 begin 0, 1 write 0 1, 1 locked, 1 committed 1")
	behind := func(text string) []api.Event { return append(slices.Clip(fine), hist(text)...) }
	unformed := func(e api.Event) []api.Event { return append(slices.Clip(fine), e) }
	return map[api.Errno][][]api.Event{
		api.ErrForm: {
			{{}}, unformed(api.Event{Kind: api.Begin, Word: 1}), unformed(api.Event{Thread: 8, Kind: api.Begin, Word: 2}), unformed(api.Event{Thread: -1, Kind: api.Halted}),
			unformed(api.Event{Thread: math.MaxInt, Kind: api.Committed}), unformed(api.Event{Thread: math.MinInt, Kind: api.Stored}), unformed(api.Event{Kind: 13}), unformed(api.Event{Kind: api.Failed, Err: api.ErrPlace}),
		},
		api.ErrTurn:   {hist("0 committed 0"), behind("0 read 0 1"), behind("1 committed 1"), behind("0 halted, 0 begin 2"), behind("0 failed 5"), behind("0 begin 2, 0 loaded 0 1")},
		api.ErrLock:   {behind("0 begin 2, 1 begin 2, 0 write 0 1, 0 locked, 1 moved 2"), behind("0 begin 2, 0 write 0 1, 0 locked, 1 begin 2")},
		api.ErrNumber: {hist("0 begin 2"), behind("0 begin 0"), behind("0 begin 2, 0 committed 2"), behind("0 begin 2, 0 moved 2"), behind("0 begin 2, 0 write 0 1, 0 locked, 0 committed 1")},
		api.ErrOwn:    {hist("0 begin 0, 0 locked"), behind("0 begin 2, 0 own 1 5"), behind("0 begin 2, 0 write 1 5, 0 read 1 5"), behind("0 begin 2, 0 write 1 5, 0 own 1 6"), behind("0 begin 2, 0 write 1 5, 0 committed 1")},
	}
}

// P17.1: Of's refusals are those of events.Check.
func TestImpossibleHistories(t *testing.T) {
	for want, all := range impossible() {
		for _, h := range all {
			nodes, l, err := Of(h)
			if err != want || err != events.Check(h).Err || nodes != nil || l != nil {
				t.Errorf("Of of %v answers %v, %v, %v, not %v", h, nodes, l, err, want)
			}
		}
	}
	// Drawn events, most of which can't be one behind the other.
	d := drawn(3)
	wrong := map[api.Errno]int{}
	for range 20000 {
		h := d.history(4, 2)
		for range 1 + d.below(3) {
			h = append(h, d.event(1+d.below(9), uint64(d.below(2))))
		}
		want := events.Check(h).Err
		wrong[want]++
		if nodes, l, err := Of(h); err != want || err != api.OK && (nodes != nil || l != nil) {
			t.Fatalf("Of of %v answers %v, %v, %v, not %v", h, nodes, l, err, want)
		}
	}
	if len(wrong) != 6 {
		t.Errorf("%v", wrong)
	}
}
