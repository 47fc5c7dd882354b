package events

import (
	"slices"
	"testing"

	"parley/api"
)

// The chapter's examples, row by row.
func TestExamples(t *testing.T) {
	for _, x := range []struct {
		text string
		want api.Odd
	}{
		{"0 begin 0, 0 read 1 5, 0 committed 0", api.Odd{At: -1, Err: api.OK}},
		{"0 begin 0, 0 write 1 5, 0 own 1 5, 0 locked, 0 committed 1, 1 begin 2", api.Odd{At: -1, Err: api.OK}},
		{"0 begin 0, 0 write 1 5, 0 read 1 5", api.Odd{At: 2, Err: api.ErrOwn}},
		{"0 begin 0, 0 locked", api.Odd{At: 1, Err: api.ErrOwn}},
		{"0 begin 0, 1 begin 0, 0 write 1 1, 0 locked, 1 moved 2", api.Odd{At: 4, Err: api.ErrLock}},
		{"0 begin 0, 1 begin 0, 0 write 1 1, 0 locked, 0 committed 1, 1 moved 2, 1 committed 1", api.Odd{At: -1, Err: api.OK}},
		{"0 begin 2", api.Odd{At: 0, Err: api.ErrNumber}},
		{"0 begin 1", api.Odd{At: 0, Err: api.ErrForm}},
		{"0 read 1 1", api.Odd{At: 0, Err: api.ErrTurn}},
		{"0 halted, 0 loaded 1 1", api.Odd{At: 1, Err: api.ErrTurn}},
	} {
		if got := Check(hist(x.text)); got != x.want {
			t.Errorf("Check(%s) answers %v, not %v", x.text, got, x.want)
		}
	}

	l, odd := Tries(hist("0 begin 0, 0 write 1 5, 0 own 1 5, 0 locked, 0 committed 1, 1 begin 2"))
	if want := []api.Try{{Thread: 0, First: 0, Last: 4, Snapshot: 0, How: api.Committed, Reads: 0, Writes: 1}, {Thread: 1, First: 5, Last: 5, Snapshot: 2, How: 0, Reads: 0, Writes: 0}}; !slices.Equal(l, want) || odd != fine {
		t.Errorf("Tries answers %v, %v", l, odd)
	}
	if text, err := Line(api.Event{Thread: 3, Kind: api.Read, Addr: 7, Word: 9, Own: true}); text != "3 own 7 9" || err != api.OK {
		t.Errorf("Line answers %q, %v", text, err)
	}
	parses(t, "0 begin 0\n", hist("0 begin 0"))
	refuses(t, "0 begin 0", 0)
	refuses(t, "0 begin 00", 0)
	refuses(t, "0 begin 00\n", 0)
}

// DOC.md's examples 1 and 2 as histories: one that adds alone; two, one of which is stale and begins anew.
func TestExamplesOfTheWhole(t *testing.T) {
	alone := "0 begin 0\n0 read 0 0\n0 write 0 1\n0 locked\n0 committed 1\n0 halted\n"
	both := "0 begin 0\n1 begin 0\n0 read 0 0\n1 read 0 0\n0 write 0 1\n1 write 0 1\n0 locked\n0 committed 1\n0 halted\n1 stale\n" +
		"1 begin 2\n1 read 0 1\n1 write 0 2\n1 locked\n1 committed 2\n1 halted\n"
	for text, places := range map[string][]int{alone: {4}, both: {7, 14}} {
		h, n, err := Parse(text)
		if err != api.OK || n != len(h) {
			t.Fatalf("Parse(%q) answers %d, %v", text, n, err)
		}
		says(t, h, fine)
		if l, odd := Commits(h); !slices.Equal(l, places) || odd != fine {
			t.Errorf("Commits(%q) answers %v, %v", text, l, odd)
		}
	}
}
