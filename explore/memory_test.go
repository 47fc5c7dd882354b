package explore

import (
	"math"
	"slices"
	"testing"

	"parley/api"
)

// spoil overwrites a list, spare room included.
func spoil[T any](l []T, with T) {
	for n := range l[:cap(l)] {
		l[:cap(l)][n] = with
	}
}

// roomy is a list with spare room behind it.
func roomy[T any](l []T, spare T) []T { return append(slices.Clone(l), spare, spare, spare)[:len(l)] }

// roomyScript is a script all of whose lists have spare room behind them; two of its programs are one list, if it has two that are alike.
func roomyScript(s api.Script) api.Script {
	out := api.Script{Cells: s.Cells, First: roomy(s.First, 77), Picks: roomy(s.Picks, 77)}
	for n, p := range s.Programs {
		if n > 0 && slices.Equal(p, s.Programs[n-1]) {
			out.Programs = append(out.Programs, out.Programs[n-1])
		} else {
			out.Programs = append(out.Programs, roomy(p, api.Instr{Op: 77}))
		}
	}
	out.Programs = roomy(out.Programs, prog("jump 0"))
	return out
}

// whole is a copy of all of a script's lists, spare room included.
func whole(s api.Script) api.Script {
	out := api.Script{Cells: s.Cells, First: slices.Clone(s.First[:cap(s.First)]), Picks: slices.Clone(s.Picks[:cap(s.Picks)])}
	for _, p := range s.Programs[:cap(s.Programs)] {
		out.Programs = append(out.Programs, slices.Clone(p[:cap(p)]))
	}
	return out
}

// sameScript tells whether two scripts are one.
func sameScript(a, b api.Script) bool {
	return a.Cells == b.Cells && slices.Equal(a.First, b.First) && slices.Equal(a.Picks, b.Picks) && slices.EqualFunc(a.Programs, b.Programs, slices.Equal[[]api.Instr])
}

// spoilScript overwrites all lists of a script.
func spoilScript(s api.Script) {
	spoil(s.First, 77)
	spoil(s.Picks, 77)
	for _, p := range s.Programs {
		spoil(p, api.Instr{Op: 77})
	}
	spoil(s.Programs, nil)
}

// spoilEnd overwrites all lists of an end.
func spoilEnd(e api.End) {
	spoil(e.Cells, 77)
	spoil(e.Status, 77)
	spoil(e.Errs, 77)
	for _, l := range e.Regs {
		spoil(l, 77)
	}
	spoil(e.Regs, nil)
	spoil(e.Picks, 77)
}

// copied is a copy of an end that shares nothing with it.
func copied(e api.End) api.End {
	out := api.End{Cells: slices.Clone(e.Cells), Status: slices.Clone(e.Status), Errs: slices.Clone(e.Errs), Picks: slices.Clone(e.Picks)}
	for _, l := range e.Regs {
		out.Regs = append(out.Regs, slices.Clone(l))
	}
	return out
}

// memoryScripts is scripts for the tests of memory.
func memoryScripts() []api.Script {
	l := slices.Clone(drawnScripts()[:150])
	l = append(l, script(1, nil, up, up), forks(), script(20, []uint64{1, 2, 3}, "const 0 19 | store 0 0 | halt", "const 0 9 | store 0 0 | halt"))
	for n := range l {
		l[n] = roomyScript(l[n])
		l[n].Picks = roomy([]uint32{1, 0, 1}, 77)
	}
	return l
}

// P19.6: what is handed in stays, spare room included.
func TestWhatIsHandedInStays(t *testing.T) {
	for _, s := range memoryScripts() {
		kept := whole(s)
		All(s)
		Ends(s)
		Distances(s)
		words := roomy(make([]uint64, s.Cells), 77)
		Picks(s, words...)
		Must(s, 0, words...)
		all := Each(s, math.MaxInt)
		for range 2 {
			for _, cells := range all {
				spoil(cells, 78)
			}
		}
		if !sameScript(whole(s), kept) {
			t.Fatalf("%s has changed", asText(s))
		}
		if slices.ContainsFunc(words, func(w uint64) bool { return w != 0 }) || words[:cap(words)][len(words)] != 77 {
			t.Fatalf("%s: the words have changed: %v", asText(s), words[:cap(words)])
		}
	}
}

// P19.6: answers written over change no other answer, nor what was handed in; and what was handed in, written over, changes no answer.
func TestAnswersAreNew(t *testing.T) {
	for _, s := range memoryScripts() {
		kept := whole(s)
		ends, _ := Ends(s)
		picks, _, _ := Picks(s)
		distances, _ := Distances(s)
		each := walked(s, math.MaxInt)
		all := Each(s, math.MaxInt)
		var wantEnds []api.End
		for _, e := range ends {
			wantEnds = append(wantEnds, copied(e))
		}
		wantPicks, wantDistances := slices.Clone(picks), slices.Clone(distances)
		var wantEach []shown
		for _, x := range each {
			wantEach = append(wantEach, shown{x.distance, slices.Clone(x.cells)})
		}

		others, _ := Ends(s)
		for _, e := range others {
			spoilEnd(e)
		}
		spoil(others, api.End{})
		other, _, _ := Picks(s)
		spoil(other, 77)
		numbers, _ := Distances(s)
		spoil(numbers, 77)
		for range 2 {
			for _, cells := range all {
				spoil(cells, 77)
			}
		}
		if !sameScript(whole(s), kept) {
			t.Fatalf("%s has changed", asText(s))
		}
		spoilScript(s)
		if !slices.EqualFunc(ends, wantEnds, sameEnd) || !slices.Equal(picks, wantPicks) || !slices.Equal(distances, wantDistances) {
			t.Fatalf("%s: the answers are others now", asText(kept))
		}
		// A walk that was asked for keeps nothing of the script, and tells new memory each time.
		n := 0
		for distance, cells := range all {
			if distance != wantEach[n].distance || !slices.Equal(cells, wantEach[n].cells) || !slices.Equal(each[n].cells, cells) {
				t.Fatalf("%s: the walk tells %d, %v", asText(kept), distance, cells)
			}
			n++
		}
		if n != len(wantEach) {
			t.Fatalf("%s: the walk tells %d", asText(kept), n)
		}
	}
}

// P19.6: within an answer no two lists share memory.
func TestAnswersShareNothing(t *testing.T) {
	for _, s := range memoryScripts() {
		l, _ := Ends(s)
		var want []api.End
		for _, e := range l {
			want = append(want, copied(e))
		}
		for n, e := range l {
			for at, r := range e.Regs {
				spoil(r, 77)
				if !slices.EqualFunc(e.Regs[at+1:], want[n].Regs[at+1:], slices.Equal[[]uint64]) {
					t.Fatalf("%s: registers share memory", asText(s))
				}
			}
			spoil(e.Regs, nil)
			spoil(e.Picks, 77)
			spoil(e.Errs, 77)
			spoil(e.Status, 77)
			if !slices.Equal(e.Cells, want[n].Cells) {
				t.Fatalf("%s: an end's lists share memory", asText(s))
			}
			spoil(e.Cells, 77)
			if !slices.EqualFunc(l[n+1:], want[n+1:], sameEnd) {
				t.Fatalf("%s: ends share memory", asText(s))
			}
		}
		each := walked(s, math.MaxInt)
		for n, x := range each {
			first := slices.Clone(x.cells)
			spoil(x.cells, 77)
			if n+1 < len(each) && slices.Equal(each[n+1].cells, x.cells) && !slices.Equal(first, x.cells) {
				t.Fatalf("%s: what a walk tells shares memory", asText(s))
			}
		}
	}
}

// An answer hangs on nothing but what is handed in: asked again it is the same, and beside one another, too.
func TestAskedAgain(t *testing.T) {
	s := forks()
	f, _ := All(s)
	ends, _ := Ends(s)
	distances, _ := Distances(s)
	each := walked(s, 5)
	done := make(chan struct{})
	for range 4 {
		go func() {
			defer func() { done <- struct{}{} }()
			for range 3 {
				foundIs(t, s, f)
				endsAre(t, roomyScript(s), ends...)
				distancesAre(t, s, distances...)
				eachIs(t, s, 5, each...)
			}
		}()
	}
	for range 4 {
		<-done
	}
}
