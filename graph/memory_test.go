package graph

import (
	"slices"
	"testing"

	"parley/api"
)

// spoil overwrites a list, spare room included.
func spoil[T any](l []T, with T) {
	for n := range l[:cap(l)] {
		l[:cap(l)][n] = with
	}
}

// roomy is a list with spare room behind it, and the whole of that.
func roomy[T any](l []T, spare T) (in, whole []T) {
	whole = append(slices.Clone(l), spare, spare, spare)
	return whole[:len(l)], whole
}

// lists is what all calls that take a graph answer of one.
func lists(n, from int, l []api.Edge) [][]int {
	order, _ := Order(n, l...)
	round, _, _ := Round(n, l...)
	reach, _ := Reach(n, from, l...)
	depths, _ := Depths(n, l...)
	needed, _ := Needed(n, l...)
	return [][]int{order, round, reach, depths, needed}
}

// What is handed in stays, spare room included.
func TestWhatIsHandedInStays(t *testing.T) {
	d := drawn(31)
	for range 300 {
		n := 1 + d.below(20)
		l, whole := roomy(d.graph(n, d.below(3*n)), api.Edge{From: 77})
		if d.below(5) == 0 {
			l = append(l, api.Edge{From: n})
		}
		order, wholeOrder := roomy(d.shuffled(n), 77)
		kept, keptOrder := slices.Clone(whole), slices.Clone(wholeOrder)
		lists(n, d.below(n), l)
		Keeps(n, order, l...)
		if !slices.Equal(whole, kept) || !slices.Equal(wholeOrder, keptOrder) {
			t.Fatalf("what was handed in has changed: %d, %v, %v", n, kept, keptOrder)
		}
		h, wholeEvents := roomy(d.history(60, 1+d.below(8)), api.Event{Thread: 77})
		keptEvents := slices.Clone(wholeEvents)
		Of(h)
		if !slices.Equal(wholeEvents, keptEvents) {
			t.Fatalf("%s has changed", asText(h))
		}
	}
}

// Answers are new memory, each time: written over they change no other answer, nor what was handed in; and this changes them no more.
func TestAnswersAreNew(t *testing.T) {
	d := drawn(32)
	for range 300 {
		n := 1 + d.below(20)
		from := d.below(n)
		l := d.graph(n, d.below(3*n))
		kept := slices.Clone(l)
		got := lists(n, from, l)
		want := make([][]int, len(got))
		for k := range got {
			want[k] = slices.Clone(got[k])
		}
		for range 2 {
			for _, other := range lists(n, from, l) {
				spoil(other, 77)
			}
		}
		if !slices.Equal(l, kept) {
			t.Fatalf("what was handed in has changed: %v, %v", l, kept)
		}
		// One of one call's answers is written over, then the next: the others stay.
		spoil(l, api.Edge{From: 77})
		for k := range got {
			for later := k; later < len(got); later++ {
				if !slices.Equal(got[later], want[later]) {
					t.Fatalf("%d, %v: %v is another one now: %v", n, kept, want[later], got[later])
				}
			}
			spoil(got[k], 77)
		}
	}
}

// The same of Of: its two answers share nothing either.
func TestAnswersOfOf(t *testing.T) {
	d := drawn(33)
	for range 300 {
		h := d.history(80, 1+d.below(8))
		kept := slices.Clone(h)
		nodes, l, _ := Of(h)
		for range 2 {
			otherNodes, other, _ := Of(h)
			spoil(otherNodes, api.Try{Thread: 77})
			spoil(other, api.Edge{From: 77})
		}
		if !slices.Equal(h, kept) {
			t.Fatalf("%s has changed", asText(kept))
		}
		spoil(h, api.Event{Thread: 77})
		wantNodes, want := modelOf(kept)
		if !slices.Equal(nodes, wantNodes) || !slices.Equal(l, want) {
			t.Fatalf("%s: the answers are others now: %v, %v", asText(kept), nodes, l)
		}
		spoil(nodes, api.Try{Thread: 77})
		if !slices.Equal(l, want) {
			t.Fatalf("%s: the edges are others now: %v", asText(kept), l)
		}
	}
}

// An answer hangs on nothing but what is handed in: asked again it is the same, in lists with and without spare room.
func TestAskedAgain(t *testing.T) {
	d := drawn(34)
	for range 100 {
		n := 1 + d.below(40)
		l := d.graph(n, d.below(4*n))
		want := lists(n, 0, l)
		h := d.history(100, 1+d.below(8))
		nodes, wantEdges, _ := Of(h)
		for range 4 {
			again, _ := roomy(l, api.Edge{From: -1})
			for k, got := range lists(n, 0, again) {
				if !slices.Equal(got, want[k]) {
					t.Fatalf("%d, %v: %v, not %v", n, l, got, want[k])
				}
			}
			same, _ := roomy(h, api.Event{})
			graphOf(t, same, nodes, wantEdges...)
		}
	}
}
