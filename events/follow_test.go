package events

import (
	"slices"
	"testing"

	"parley/api"
)

// drawnOnes are histories of all sorts that can be.
func drawnOnes(t *testing.T, seed drawn, many int) [][]api.Event {
	t.Helper()
	d := seed
	l := runs(t, many)
	for n := range many {
		l = append(l, d.history(40, 1+n%5))
	}
	return l
}

// P13.5: each beginning of a history that can be can be.
func TestBeginnings(t *testing.T) {
	for _, h := range drawnOnes(t, 11, 150) {
		for n := range len(h) + 1 {
			if got := Check(h[:n]); got != fine {
				t.Fatalf("Check(%s) answers %v", asText(h[:n]), got)
			}
		}
	}
}

// P13.5: Parse of Text is the history, Text of Parse the text; of histories that can't be, too, if they are in form.
func TestThereAndBack(t *testing.T) {
	d := drawn(12)
	for _, h := range drawnOnes(t, 13, 200) {
		for range 3 {
			text, err := Text(h)
			if formed := !slices.ContainsFunc(h, func(e api.Event) bool { return !modelFormed(e) }); formed != (err == api.OK) {
				t.Fatalf("Text(%s) answers %v", asText(h), err)
			}
			if err == api.OK {
				parses(t, text, h)
				back, _, _ := Parse(text)
				if again, err := Text(back); again != text || err != api.OK || !Same(back, h) {
					t.Fatalf("Text of Parse(%q) answers %q, %v", text, again, err)
				}
			}
			h = d.changed(h)
		}
	}
}

// P13.5: a thread's attempts follow one another, and have all its events but those outside.
func TestAttemptsFollow(t *testing.T) {
	outside := []api.EventKind{api.Loaded, api.Stored, api.Halted, api.Failed}
	for _, h := range drawnOnes(t, 14, 200) {
		l, odd := Tries(h)
		if odd != fine || !slices.IsSortedFunc(l, func(a, b api.Try) int { return a.First - b.First }) {
			t.Fatalf("Tries(%s) answers %v, %v", asText(h), l, odd)
		}
		for thread := range 8 {
			within := make([]bool, len(h))
			last := -1
			for _, one := range l {
				if one.Thread != thread {
					continue
				}
				if one.First <= last || one.Last < one.First || h[one.First].Kind != api.Begin || one.How != 0 && h[one.Last].Kind != one.How {
					t.Fatalf("an attempt of %s is %+v", asText(h), one)
				}
				last = one.Last
				for at := one.First; at <= one.Last; at++ {
					within[at] = true
				}
			}
			for at, e := range h {
				if e.Thread == thread && !within[at] && !slices.Contains(outside, e.Kind) {
					t.Fatalf("event %d of %s is in no attempt", at, asText(h))
				}
				if e.Thread == thread && within[at] && slices.Contains(outside[:3], e.Kind) {
					t.Fatalf("event %d of %s is in an attempt", at, asText(h))
				}
			}
		}
	}
}

// P13.5: commits with the lock are numbered 1, 2, 3 and so on.
func TestNumbersOfCommits(t *testing.T) {
	most := uint64(0)
	for _, h := range drawnOnes(t, 15, 200) {
		places, _ := Commits(h)
		locked := map[int]bool{}
		number, next := uint64(0), 0
		for at, e := range h {
			switch e.Kind {
			case api.Begin:
				locked[e.Thread] = false
			case api.Locked:
				locked[e.Thread] = true
			case api.Committed:
				if places[next] != at {
					t.Fatalf("Commits(%s) answers %v", asText(h), places)
				}
				next++
				if locked[e.Thread] {
					number++
					if e.Word != number {
						t.Fatalf("commit %d of %s has the number %d", number, asText(h), e.Word)
					}
				}
			}
		}
		most = max(most, number)
	}
	if most < 5 {
		t.Errorf("no more than %d commits with the lock", most)
	}
}

// P13.5: events of unlike threads that are no Begin, Moved, Locked or Committed may be exchanged, in histories that can and that can't be.
func TestExchanged(t *testing.T) {
	d := drawn(16)
	bound := []api.EventKind{api.Begin, api.Moved, api.Locked, api.Committed}
	seen := [2]int{}
	for _, h := range drawnOnes(t, 17, 200) {
		for range 4 {
			can := Check(h).Err == api.OK
			for at := 1; at < len(h); at++ {
				a, b := h[at-1], h[at]
				if a.Thread == b.Thread || slices.Contains(bound, a.Kind) || slices.Contains(bound, b.Kind) {
					continue
				}
				other := slices.Clone(h)
				other[at-1], other[at] = b, a
				if got := Check(other).Err == api.OK; got != can {
					t.Fatalf("%s: with %d and %d exchanged whether it can be is %t", asText(h), at-1, at, got)
				}
				if seen[0]++; can {
					seen[1]++
				}
			}
			h = d.changed(h)
		}
	}
	if seen[1] < 1000 || seen[0]-seen[1] < 1000 {
		t.Errorf("exchanged: %v", seen)
	}
}

// P13.6: what is handed in stays, spare room included.
func TestWhatIsHandedInStays(t *testing.T) {
	d := drawn(18)
	for _, h := range drawnOnes(t, 19, 60) {
		for range 3 {
			room := append(slices.Clone(h), unformed()[:5]...)
			kept := slices.Clone(room)
			in := room[:len(h)]
			Check(in)
			Tries(in)
			Commits(in)
			Of(in, 0)
			Of(in, 1)
			Threads(in)
			Text(in)
			Same(in, in[:len(in)/2])
			Same(in, slices.Clone(in))
			if !slices.Equal(room, kept) {
				t.Fatalf("%s became %s", asText(kept), asText(room))
			}
			h = d.changed(h)
		}
	}
}

// spoil overwrites a list, spare room included.
func spoil[T any](l []T, with T) {
	for n := range l[:cap(l)] {
		l[:cap(l)][n] = with
	}
}

// P13.6: what is answered is new memory: written over, it changes no other answer, and what was handed in changes it no more.
func TestAnswersAreNew(t *testing.T) {
	wrong := api.Event{Thread: 77, Kind: 77}
	for _, h := range drawnOnes(t, 20, 60) {
		kept := slices.Clone(h)
		text, _ := Text(h)
		tries, _ := Tries(h)
		places, _ := Commits(h)
		of, read := Of(h, 0), []api.Event(nil)
		read, _, _ = Parse(text)
		again, _ := Tries(h)
		triesKept, placesKept, ofKept := slices.Clone(tries), slices.Clone(places), slices.Clone(of)
		spoil(again, api.Try{Thread: 77})
		if !slices.Equal(tries, triesKept) {
			t.Fatal("two answers of Tries share memory")
		}
		spoil(tries, api.Try{Thread: 77})
		spoil(places, 77)
		spoil(of, wrong)
		spoil(read, wrong)
		if !slices.Equal(h, kept) {
			t.Fatalf("%s became %s", asText(kept), asText(h))
		}
		tries, _ = Tries(h)
		places, _ = Commits(h)
		of = Of(h, 0)
		read, _, _ = Parse(text)
		if !slices.Equal(tries, triesKept) || !slices.Equal(places, placesKept) || !slices.Equal(of, ofKept) || !slices.Equal(read, kept) {
			t.Fatalf("%s: the answers are others now", asText(h))
		}
		spoil(h[:len(h):len(h)], wrong)
		if !slices.Equal(tries, triesKept) || !slices.Equal(places, placesKept) || !slices.Equal(of, ofKept) || !slices.Equal(read, kept) {
			t.Fatalf("%s: what was answered has changed with what was handed in", asText(kept))
		}
	}
}
