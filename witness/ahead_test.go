package witness

import (
	"math"
	"testing"

	"parley/api"
)

// standsAhead asks of all places, those that are none too, which of a history's blocks are ahead of which.
func standsAhead(t *testing.T, h []api.Event, want ...[2]int) {
	t.Helper()
	l, err := Blocks(h)
	if err != api.OK {
		t.Fatal(err)
	}
	pairs := map[[2]int]bool{}
	for _, p := range want {
		pairs[p] = true
	}
	places := []int{math.MinInt, -1, len(l), len(l) + 1, math.MaxInt}
	for n := range l {
		places = append(places, n)
	}
	for _, a := range places {
		for _, b := range places {
			if got := Ahead(h, a, b); got != pairs[[2]int{a, b}] {
				t.Errorf("Ahead(%s, %d, %d) answers %t", asText(h), a, b, got)
			}
		}
	}
}

// P15.3: places that are none, blocks that overlap, blocks that do not, each kind ahead of each.
func TestAhead(t *testing.T) {
	standsAhead(t, nil)
	standsAhead(t, []api.Event{})
	standsAhead(t, hist("0 loaded 0 0, 1 halted"))
	standsAhead(t, hist("0 begin 0"))
	standsAhead(t, hist("0 begin 0, 0 committed 0"))
	standsAhead(t, hist("0 begin 0, 0 committed 0, 1 begin 0, 1 committed 0"), [2]int{0, 1})
	standsAhead(t, hist("0 begin 0, 1 begin 0, 0 committed 0, 1 committed 0"))
	standsAhead(t, hist("0 begin 0, 1 begin 0, 1 committed 0, 0 committed 0"))
	standsAhead(t, hist("0 begin 0, 1 begin 0, 1 committed 0, 1 begin 0, 0 committed 0, 1 aborted, 0 begin 0"), [2]int{1, 2}, [2]int{0, 3}, [2]int{1, 3}, [2]int{2, 3})
	for _, end := range []string{"0 committed 0", "0 aborted", "0 stale", "0 failed 5"} {
		for _, next := range []string{"", ", 1 committed 0", ", 1 aborted", ", 1 stale", ", 1 failed 4"} {
			standsAhead(t, hist("0 begin 0, 0 read 1 1, "+end+", 1 begin 0, 1 read 1 1"+next), [2]int{0, 1})
		}
	}
	// Many threads' blocks in a row.
	standsAhead(t, hist("5 begin 0, 5 write 0 1, 5 locked, 5 committed 1, 5 begin 2, 3 begin 2, 5 stale, 3 aborted, 5 begin 2"), [2]int{0, 1}, [2]int{0, 2}, [2]int{0, 3}, [2]int{1, 3}, [2]int{2, 3})
}

// P15.3: an open block is ahead of none, though its last event stands ahead of another one's first; others may be ahead of it.
func TestAheadOfOpen(t *testing.T) {
	standsAhead(t, hist("0 begin 0, 0 read 1 1, 1 begin 0, 1 committed 0"))
	standsAhead(t, hist("0 begin 0, 1 begin 0"))
	standsAhead(t, hist("0 begin 0, 0 stale, 1 begin 0, 0 begin 0"), [2]int{0, 1}, [2]int{0, 2})
	standsAhead(t, hist("1 begin 0, 1 committed 0, 2 begin 0, 0 begin 0, 0 write 1 1, 0 locked"), [2]int{0, 1}, [2]int{0, 2})
	standsAhead(t, hist("0 begin 0, 1 begin 0, 1 aborted, 1 begin 0, 1 aborted"), [2]int{1, 2})
}

// P15.3: of a history that can't be nothing, though its blocks do not overlap.
func TestAheadOfWhatCanNotBe(t *testing.T) {
	for _, l := range impossible() {
		for _, h := range l {
			for _, a := range []int{-1, 0, 1, 2} {
				for _, b := range []int{-1, 0, 1, 2} {
					if Ahead(h, a, b) {
						t.Errorf("Ahead(%v, %d, %d)", h, a, b)
					}
				}
			}
		}
	}
	// The same without what can't be.
	standsAhead(t, hist("0 begin 0, 0 read 1 5, 0 committed 0, 1 begin 0, 1 write 0 1, 1 locked, 1 committed 1"), [2]int{0, 1})
}

// P15.3: drawn histories: each two blocks by their events.
func TestAheadAgainstTheModel(t *testing.T) {
	d := drawn(4)
	seen := [2]int{}
	for range 150 {
		h := d.history(50, 1+d.below(5), true)
		l := modelBlocks(h)
		for a, x := range l {
			for b, y := range l {
				want := x.Kind != api.BlockOpen && x.Last < y.First
				if got := Ahead(h, a, b); got != want {
					t.Fatalf("Ahead(%s, %d, %d) answers %t", asText(h), a, b, got)
				}
				if seen[0]++; want {
					seen[1]++
				}
			}
		}
	}
	if seen[1] < 1000 || seen[0]-seen[1] < 1000 {
		t.Errorf("pairs: %v", seen)
	}
}
