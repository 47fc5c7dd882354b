package events

import (
	"math"
	"slices"
	"testing"

	"parley/api"
)

// P13.2: attempts side by side, each way to end, those that are not over, Moved between, Reads that are Own and not.
func TestTries(t *testing.T) {
	for _, x := range []struct {
		text string
		want []api.Try
	}{
		{"", nil},
		{"0 loaded 1 1, 0 stored 1 1, 1 halted, 0 failed 4", nil},
		{"5 begin 0", []api.Try{{Thread: 5}}},
		{"0 loaded 1 1, 1 begin 0", []api.Try{{Thread: 1, First: 1, Last: 1}}},
		{"0 begin 0, 0 committed 0", []api.Try{{Last: 1, How: api.Committed}}},
		{"0 begin 0, 0 stale", []api.Try{{Last: 1, How: api.Stale}}},
		{"0 begin 0, 0 aborted", []api.Try{{Last: 1, How: api.Aborted}}},
		{"0 begin 0, 0 failed 6", []api.Try{{Last: 1, How: api.Failed}}},
		{"0 begin 0, 0 write 1 1, 0 locked", []api.Try{{Last: 2, Writes: 1}}},
		{"0 begin 0, 0 stale, 0 failed 4", []api.Try{{Last: 1, How: api.Stale}}}, // a plain access that fails is of no attempt
		{"0 begin 0, 0 committed 0, 0 loaded 1 1, 0 halted", []api.Try{{Last: 1, How: api.Committed}}},
		{
			"0 begin 0, 0 read 1 1, 0 read 1 1, 0 write 2 2, 0 own 2 2, 0 own 2 2, 0 write 2 3, 0 own 2 3, 0 read 3 3",
			[]api.Try{{Last: 8, Reads: 3, Writes: 2}},
		},
		{
			"0 begin 0, 1 begin 0, 0 read 1 1, 2 loaded 0 0, 1 write 1 1, 1 locked, 1 committed 1, 1 begin 2, 0 moved 2, 0 read 5 5, 1 stale, 0 aborted, 1 halted, 0 begin 2, 0 failed 5",
			[]api.Try{
				{Thread: 0, First: 0, Last: 11, Snapshot: 2, How: api.Aborted, Reads: 2},
				{Thread: 1, First: 1, Last: 6, How: api.Committed, Writes: 1},
				{Thread: 1, First: 7, Last: 10, Snapshot: 2, How: api.Stale},
				{Thread: 0, First: 13, Last: 14, Snapshot: 2, How: api.Failed},
			},
		},
		{
			"7 begin 0, 3 begin 0, 3 write 1 1, 3 locked, 3 committed 1, 7 moved 2, 3 begin 2, 3 write 1 1, 3 locked, 3 committed 2, 7 moved 4",
			[]api.Try{
				{Thread: 7, First: 0, Last: 10, Snapshot: 4},
				{Thread: 3, First: 1, Last: 4, How: api.Committed, Writes: 1},
				{Thread: 3, First: 6, Last: 9, Snapshot: 2, How: api.Committed, Writes: 1},
			},
		},
	} {
		h := hist(x.text)
		if got, odd := Tries(h); !slices.Equal(got, x.want) || odd != fine {
			t.Errorf("Tries(%s) answers %+v, %v, not %+v", x.text, got, odd, x.want)
		}
		says(t, h, fine)
	}
}

// P13.2: the places of all commits, those that read alone too.
func TestCommits(t *testing.T) {
	for text, want := range map[string][]int{
		"":                         nil,
		"0 begin 0, 0 stale":       nil,
		"0 begin 0, 0 committed 0": {1},
		"0 begin 0, 1 begin 0, 2 begin 0, 1 write 0 0, 2 committed 0, 1 locked, 0 committed 0, 1 committed 1, 0 begin 2, 0 aborted, 2 begin 2, 2 committed 1": {4, 6, 7, 11},
	} {
		if got, odd := Commits(hist(text)); !slices.Equal(got, want) || odd != fine {
			t.Errorf("Commits(%s) answers %v, %v, not %v", text, got, odd, want)
		}
	}
}

// P13.2: of histories that can't be nothing but Check's answer, also where all attempts stand ahead of what can't be.
func TestTriesOfWhatCanNotBe(t *testing.T) {
	ahead := "0 begin 0, 0 committed 0, 0 begin 0, 0 write 1 1, 0 locked, 0 committed 1, "
	for behind, err := range map[string]api.Errno{
		"0 begin 1": api.ErrForm, "0 stale": api.ErrTurn, "0 begin 2, 0 write 0 0, 0 locked, 1 begin 2": api.ErrLock, "0 begin 4": api.ErrNumber, "0 begin 2, 0 own 0 0": api.ErrOwn,
	} {
		h := hist(ahead + behind)
		want := api.Odd{At: len(h) - 1, Err: err}
		if l, odd := Tries(h); l != nil || odd != want {
			t.Errorf("Tries behind %s answers %v, %v, not %v", behind, l, odd, want)
		}
		if l, odd := Commits(h); l != nil || odd != want {
			t.Errorf("Commits behind %s answers %v, %v, not %v", behind, l, odd, want)
		}
	}
}

// P13.3: the events of a thread that there is, that there is not, below 0; they need not be in form.
func TestOf(t *testing.T) {
	h := []api.Event{
		ev(0, api.Begin, 0), ev(1, api.Halted), {Thread: -1, Kind: 99, Err: 7}, ev(0, api.Stale), {Thread: math.MaxInt, Addr: 3}, ev(1, api.Halted), {Thread: math.MinInt, Own: true}, {Thread: -1},
	}
	for thread, want := range map[int][]int{0: {0, 3}, 1: {1, 5}, 2: nil, 7: nil, 8: nil, -1: {2, 7}, -2: nil, math.MaxInt: {4}, math.MinInt: {6}, math.MaxInt - 1: nil} {
		got := Of(h, thread)
		if len(got) != len(want) {
			t.Errorf("Of(.., %d) answers %v", thread, got)
			continue
		}
		for n, at := range want {
			if got[n] != h[at] {
				t.Errorf("Of(.., %d) answers %v", thread, got)
			}
		}
	}
	if len(Of(nil, 0)) != 0 || len(Of([]api.Event{}, 0)) != 0 || len(Of(nil, -1)) != 0 {
		t.Error("Of no history tells something")
	}
}

// P13.3: how many threads, by the greatest that counts.
func TestThreads(t *testing.T) {
	for _, x := range []struct {
		threads []int
		want    int
	}{
		{nil, 0},
		{[]int{0}, 1},
		{[]int{0, 0, 0}, 1},
		{[]int{3}, 4},
		{[]int{7, 2}, 8},
		{[]int{2, 7}, 8},
		{[]int{1, 8, 5}, 9},
		{[]int{-1}, 0},
		{[]int{math.MinInt, -1}, 0},
		{[]int{-1, 4, -9}, 5},
		{[]int{1<<31 - 1}, 1 << 31},
		{[]int{1<<31 - 1, 5}, 1 << 31},
		{[]int{1 << 31}, 0},
		{[]int{1 << 31, math.MaxInt, 3}, 4},
		{[]int{3, 1 << 31, math.MaxInt}, 4},
		{[]int{1<<31 - 2, 1 << 31, 1 << 32}, 1<<31 - 1},
	} {
		var h []api.Event
		for _, n := range x.threads {
			h = append(h, api.Event{Thread: n})
		}
		if got := Threads(h); got != x.want {
			t.Errorf("Threads of %v answers %d, not %d", x.threads, got, x.want)
		}
	}
	if Threads([]api.Event{}) != 0 {
		t.Error("an empty history has threads")
	}
}

// P13.3: like and unlike lists, by length, by order and by each field.
func TestSame(t *testing.T) {
	h := []api.Event{ev(0, api.Begin, 0), {Thread: -5, Kind: 40, Addr: 1, Word: 2, Own: true, Err: 3}, ev(1, api.Halted)}
	same := func(what string, a, b []api.Event, want bool) {
		t.Helper()
		if Same(a, b) != want || Same(b, a) != want {
			t.Errorf("%s: Same does not answer %t", what, want)
		}
	}
	same("itself", h, h, true)
	same("a copy", h, slices.Clone(h), true)
	same("nil and empty", nil, []api.Event{}, true)
	same("nil and nil", nil, nil, true)
	same("nil and some", nil, h, false)
	for n := range h {
		same("a beginning", h, h[:n], false)
		same("an end", h, h[n+1:], false)
	}
	same("an order", h, []api.Event{h[1], h[0], h[2]}, false)
	same("one more", h, append(slices.Clone(h), api.Event{}), false)
	for at := range h {
		for n, change := range []func(*api.Event){
			func(e *api.Event) { e.Thread++ }, func(e *api.Event) { e.Kind++ }, func(e *api.Event) { e.Addr++ },
			func(e *api.Event) { e.Word++ }, func(e *api.Event) { e.Own = !e.Own }, func(e *api.Event) { e.Err++ },
		} {
			other := slices.Clone(h)
			change(&other[at])
			same("field "+string(rune('0'+n)), h, other, false)
		}
	}
}
