package opaque

import (
	"slices"
	"testing"

	"parley/api"
)

// spoil overwrites a list, spare room included.
func spoil[T any](l []T, with T) {
	for n := range l[:cap(l)] {
		l[:cap(l)][n] = with
	}
}

// roomy is a list with spare room behind it, and the whole of that.
func roomy[T any](l []T, spare T) (in, whole []T) {
	whole = append(slices.Clone(l), spare, spare, spare)
	return whole[:len(l)], whole
}

// P16.5: what is handed in stays, spare room included.
func TestWhatIsHandedInStays(t *testing.T) {
	d := drawn(31)
	for range 300 {
		cells := 1 + d.below(4)
		first, allFirst := roomy(d.first(cells), 77)
		h, allEvents := roomy(d.history(60, 1+d.below(4), cells), api.Event{Thread: 77})
		words, allWords := roomy(cellList(0, 2, 0, 2, uint64(cells-1), 1, 0, 1), api.Cell{Addr: 77})
		if d.below(4) == 0 {
			words[3].Addr = 9
		}
		keptFirst, keptEvents, keptWords := slices.Clone(allFirst), slices.Clone(allEvents), slices.Clone(allWords)
		answers(first, h, d.below(3), words...)
		if !slices.Equal(allFirst, keptFirst) || !slices.Equal(allEvents, keptEvents) || !slices.Equal(allWords, keptWords) {
			t.Fatalf("what was handed in has changed: %v, %s, %v", first, asText(h), words)
		}
	}
}

// P16.5: answers are new memory, each time: written over they change no other answer, nor what was handed in; and this changes them no more.
func TestAnswersAreNew(t *testing.T) {
	d := drawn(32)
	for range 300 {
		cells := 1 + d.below(4)
		first, h := d.first(cells), d.history(60, 1+d.below(4), cells)
		words := cellList(0, first[0])
		keptFirst, kept := slices.Clone(first), slices.Clone(h)
		most := len(modelStates(first, h)) - 1
		number := d.below(most + 1)
		want := modelStates(first, h)[number]

		seen, _ := Sights(first, h)
		behind, _ := Behind(first, h, number)
		together, _ := Together(first, h, words...)
		never, _ := Never(first, h)
		for range 2 {
			other, _ := Sights(first, h)
			spoil(other, api.Sight{From: 77})
			cells, _ := Behind(first, h, number)
			spoil(cells, 77)
			cells, _ = Behind(first, h, 0)
			spoil(cells, 77)
			numbers, _ := Together(first, h, words...)
			spoil(numbers, 77)
			another, _ := Never(first, h)
			spoil(another, api.Cell{Addr: 77})
		}
		if !slices.Equal(first, keptFirst) || !slices.Equal(h, kept) || words[0] != (api.Cell{Word: first[0]}) {
			t.Fatalf("what was handed in has changed: %v, %s, %v", first, asText(h), words)
		}
		spoil(first, 77)
		spoil(h, api.Event{Thread: 77})
		spoil(words, api.Cell{Addr: 77})
		if !slices.Equal(seen, modelSights(keptFirst, kept)) || !slices.Equal(behind, want) || !slices.Equal(together, modelTogether(keptFirst, kept, api.Cell{Word: keptFirst[0]})) || !slices.Equal(never, modelNever(keptFirst, kept)) {
			t.Fatalf("%v, %s: the answers are others now", keptFirst, asText(kept))
		}
	}
}

// An answer hangs on nothing but what is handed in: asked again it is the same.
func TestAskedAgain(t *testing.T) {
	d := drawn(33)
	for range 100 {
		cells := 1 + d.below(4)
		first, h := d.first(cells), d.history(80, 1+d.below(8), cells)
		want, _ := Never(first, h)
		seen, _ := Sights(first, h)
		for range 5 {
			neverStood(t, first, h, want...)
			sights(t, first, h, seen...)
		}
	}
}
