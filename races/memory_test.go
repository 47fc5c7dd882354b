package races

import (
	"slices"
	"testing"

	"parley/api"
)

// spoil overwrites a list, spare room included.
func spoil[T any](l []T, with T) {
	for n := range l[:cap(l)] {
		l[:cap(l)][n] = with
	}
}

// roomy is a list with spare room behind it, and the whole of that.
func roomy[T any](l []T, spare T) (in, whole []T) {
	whole = append(slices.Clone(l), spare, spare, spare)
	return whole[:len(l)], whole
}

// What is handed in stays, spare room included.
func TestWhatIsHandedInStays(t *testing.T) {
	d := drawn(31)
	for range 300 {
		h, whole := roomy(d.history(60, 1+d.below(8), 1+d.below(6)), api.Event{Thread: 77})
		first, wholeFirst := roomy(d.first(), 77)
		kept, keptFirst := slices.Clone(whole), slices.Clone(wholeFirst)
		Accesses(h)
		Races(h)
		Quiet(h)
		for e := range h {
			Told(h, first, e)
			Ahead(h, e, d.below(len(h)))
		}
		if !slices.Equal(whole, kept) || !slices.Equal(wholeFirst, keptFirst) {
			t.Fatalf("%s, %v have changed", asText(h), first)
		}
	}
}

// deep is a copy of a script that shares nothing with it.
func deep(s api.Script) api.Script {
	out := api.Script{Cells: s.Cells, First: slices.Clone(s.First), Picks: slices.Clone(s.Picks)}
	for _, p := range s.Programs {
		out.Programs = append(out.Programs, slices.Clone(p))
	}
	return out
}

// spoilScript overwrites all lists of a script.
func spoilScript(s api.Script) {
	spoil(s.First, 77)
	spoil(s.Picks, 77)
	for _, p := range s.Programs {
		spoil(p, api.Instr{Op: 77})
	}
	spoil(s.Programs, nil)
}

// The same of Split, whose programs may be one and the same list.
func TestSplitMemory(t *testing.T) {
	d := drawn(32)
	for range 300 {
		s := d.script(30)
		var wholeFirst []uint64
		var wholePicks []uint32
		var wholeCode []api.Instr
		var wholePrograms [][]api.Instr
		s.First, wholeFirst = roomy(s.First, 77)
		s.Picks, wholePicks = roomy(s.Picks, 77)
		s.Programs[0], wholeCode = roomy(s.Programs[0], api.Instr{Op: 77})
		s.Programs = append(s.Programs, s.Programs[0])
		s.Programs, wholePrograms = roomy(s.Programs, prog("halt"))
		keptFirst, keptPicks, keptCode, kept := slices.Clone(wholeFirst), slices.Clone(wholePicks), slices.Clone(wholeCode), deep(s)

		got, _ := Split(s)
		want := deep(got)
		other, _ := Split(s)
		spoilScript(other)
		if !sameScript(s, kept) || !slices.Equal(wholeFirst, keptFirst) || !slices.Equal(wholePicks, keptPicks) || !slices.Equal(wholeCode, keptCode) || len(wholePrograms[len(wholePrograms)-1]) != 1 {
			t.Fatalf("%v has changed", kept)
		}
		spoilScript(s)
		if !sameScript(got, want) {
			t.Fatalf("%v: the answer is another one now: %v", kept, got)
		}
		// One program of the answer is written over, then the next: the others stay.
		for n, p := range got.Programs {
			spoil(p, api.Instr{Op: 77})
			if !slices.EqualFunc(got.Programs[n+1:], want.Programs[n+1:], slices.Equal[[]api.Instr]) {
				t.Fatalf("%v: programs share memory", kept)
			}
		}
		if spoil(got.Programs, nil); !slices.Equal(got.First, want.First) || !slices.Equal(got.Picks, want.Picks) {
			t.Fatalf("%v: the answer's lists share memory", kept)
		}
	}
	// Nothing to split: new memory all the same.
	s := script(1, []uint64{1}, "halt", "halt")
	s.Picks = []uint32{1}
	got, _ := Split(s)
	spoilScript(got)
	if !sameScript(s, api.Script{Cells: 1, First: []uint64{1}, Picks: []uint32{1}, Programs: [][]api.Instr{prog("halt"), prog("halt")}}) {
		t.Errorf("%v", s)
	}
}

// Answers are new memory, each time: written over they change no other answer, nor what was handed in; and this changes them no more.
func TestAnswersAreNew(t *testing.T) {
	d := drawn(33)
	for range 300 {
		h := d.history(60, 1+d.below(8), 1+d.below(4))
		kept := slices.Clone(h)
		accesses, _ := Accesses(h)
		races, _ := Races(h)
		for range 2 {
			other, _ := Accesses(h)
			spoil(other, api.Access{Thread: 77})
			more, _ := Races(h)
			spoil(more, api.Race{First: 77})
		}
		if !slices.Equal(h, kept) {
			t.Fatalf("%s has changed", asText(kept))
		}
		spoil(h, api.Event{Thread: 77})
		if m := modeled(kept); !slices.Equal(accesses, m.list) || !slices.Equal(races, m.races) {
			t.Fatalf("%s: the answers are others now: %v, %v", asText(kept), accesses, races)
		}
	}
}

// An answer hangs on nothing but what is handed in: asked again it is the same, in lists with and without spare room.
func TestAskedAgain(t *testing.T) {
	d := drawn(34)
	for range 100 {
		h := d.history(100, 1+d.below(8), 1+d.below(8))
		accesses, _ := Accesses(h)
		races, _ := Races(h)
		for range 5 {
			same, _ := roomy(h, api.Event{})
			accessesAre(t, same, accesses...)
			racesAre(t, same, races...)
		}
	}
}
