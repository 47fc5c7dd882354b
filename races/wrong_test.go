package races

import (
	"math"
	"slices"
	"testing"

	"parley/api"
	"parley/events"
)

// impossible are histories that can't be, some for each error that events.Check tells.
func impossible() map[api.Errno][][]api.Event {
	fine := hist("0 stored 1 5, 0 loaded 1 5, 0 begin 0, 0 read 1 5, 0 committed 0, 1 begin 0, 1 write 0 1, 1 locked, 1 committed 1")
	behind := func(text string) []api.Event { return append(slices.Clip(fine), hist(text)...) }
	unformed := func(e api.Event) []api.Event { return append(slices.Clip(fine), e) }
	return map[api.Errno][][]api.Event{
		api.ErrForm: {
			{{}}, unformed(api.Event{Kind: api.Begin, Word: 1}), unformed(api.Event{Thread: 8, Kind: api.Stored}), unformed(api.Event{Thread: -1, Kind: api.Halted}),
			unformed(api.Event{Thread: math.MaxInt, Kind: api.Loaded}), unformed(api.Event{Thread: math.MinInt, Kind: api.Stored}), unformed(api.Event{Kind: 13}), unformed(api.Event{Kind: api.Failed, Err: api.ErrPlace}), unformed(api.Event{Kind: api.Loaded, Own: true}),
		},
		api.ErrTurn:   {hist("0 locked"), behind("0 read 0 1"), behind("1 committed 1"), behind("0 halted, 0 loaded 1 1"), behind("0 failed 5"), behind("0 begin 2, 0 loaded 0 1"), behind("0 begin 2, 0 stored 0 1")},
		api.ErrLock:   {behind("0 begin 2, 1 begin 2, 0 write 0 1, 0 locked, 1 moved 2"), behind("0 begin 2, 0 write 0 1, 0 locked, 1 begin 2")},
		api.ErrNumber: {hist("0 begin 2"), behind("0 begin 0"), behind("0 begin 2, 0 committed 2"), behind("0 begin 2, 0 moved 2"), behind("0 begin 2, 0 write 0 1, 0 locked, 0 committed 1")},
		api.ErrOwn:    {hist("0 begin 0, 0 locked"), behind("0 begin 2, 0 own 1 5"), behind("0 begin 2, 0 write 1 5, 0 read 1 5"), behind("0 begin 2, 0 write 1 5, 0 own 1 6"), behind("0 begin 2, 0 write 1 5, 0 committed 1")},
	}
}

// refused asks all calls that take a history whether they take none of one that can't be.
func refused(t *testing.T, h []api.Event, want api.Errno) {
	t.Helper()
	accesses, err := Accesses(h)
	if err != want || accesses != nil {
		t.Errorf("Accesses of %v answers %v, %v, not %v", h, accesses, err, want)
	}
	races, err := Races(h)
	if err != want || races != nil {
		t.Errorf("Races of %v answers %v, %v, not %v", h, races, err, want)
	}
	if Quiet(h) {
		t.Errorf("%v is quiet", h)
	}
	for e := -1; e <= len(h); e++ {
		for f := -1; f <= len(h); f++ {
			aheadIs(t, h, e, f, false)
		}
		tells(t, h, []uint64{1, 2, 3}, e, 0, false)
	}
}

// P18.1 to P18.3: histories that can't be.
func TestImpossibleHistories(t *testing.T) {
	for want, all := range impossible() {
		for _, h := range all {
			if err := events.Check(h).Err; err != want {
				t.Errorf("%v: %v, not %v", h, err, want)
			}
			refused(t, h, want)
		}
	}
	// Drawn events, most of which can't be one behind the other.
	d := drawn(21)
	wrong := map[api.Errno]int{}
	for range 6000 {
		h := d.history(4, 2, 2)
		for range 1 + d.below(3) {
			h = append(h, d.event(1+d.below(9), 2, uint64(d.below(2))))
		}
		want := events.Check(h).Err
		if wrong[want]++; want != api.OK {
			refused(t, h, want)
		} else {
			agrees(t, nil, h)
		}
		if t.Failed() {
			return
		}
	}
	if len(wrong) != 6 {
		t.Errorf("%v", wrong)
	}
}
