package witness

import (
	"slices"
	"testing"

	"parley/api"
)

// spoil overwrites a list, spare room included.
func spoil[T any](l []T, with T) {
	for n := range l[:cap(l)] {
		l[:cap(l)][n] = with
	}
}

// spoilBlocks overwrites blocks with their lists.
func spoilBlocks(l []api.Block) {
	for _, b := range l {
		spoil(b.Reads, api.Entry{Addr: 77, Word: 77, Own: true})
		spoil(b.Writes, api.Entry{Addr: 77, Word: 77, Own: true})
	}
	spoil(l, api.Block{Thread: 77})
}

// spoilProof overwrites a proof's lists.
func spoilProof(p api.Proof) {
	spoil(p.Order, 77)
	spoil(p.Cells, 77)
	spoil(p.Threads, api.Thread{At: 77})
}

// roomy is a list with spare room behind it, and the whole of that.
func roomy[T any](l []T, spare T) (in, whole []T) {
	whole = append(slices.Clone(l), spare, spare, spare)
	return whole[:len(l)], whole
}

// What is handed in stays, spare room included.
func TestWhatIsHandedInStays(t *testing.T) {
	d := drawn(31)
	for range 200 {
		s := d.script()
		events, allEvents := roomy(run(t, s).Events, api.Event{Kind: api.Halted})
		if d.below(4) == 0 {
			events, allEvents = roomy(d.history(30, len(s.Programs), true), api.Event{Thread: 77})
		}
		var allFirst []uint64
		s.First, allFirst = roomy(s.First, 77)
		var all [][]api.Instr
		for n, p := range s.Programs {
			in, whole := roomy(p, api.Instr{Op: api.OpHalt})
			s.Programs[n], all = in, append(all, whole)
		}
		keptEvents, keptFirst := slices.Clone(allEvents), slices.Clone(allFirst)
		var kept [][]api.Instr
		for _, p := range all {
			kept = append(kept, slices.Clone(p))
		}
		Blocks(events)
		Order(events)
		Prove(s, events)
		Ahead(events, 0, 1)
		if !slices.Equal(allEvents, keptEvents) || !slices.Equal(allFirst, keptFirst) || !slices.EqualFunc(all, kept, slices.Equal) {
			t.Fatalf("what was handed in has changed: %s", asText(events))
		}
	}
}

// Answers are new memory: written over they change no other answer, nor what was handed in; and this changes them no more.
func TestAnswersAreNew(t *testing.T) {
	d := drawn(32)
	for range 200 {
		s := d.script()
		h := run(t, s).Events
		kept, first := slices.Clone(h), slices.Clone(s.First)
		blocks, _ := Blocks(h)
		order, _ := Order(h)
		proof, _ := Prove(s, h)
		other, _ := Blocks(h)
		spoilBlocks(other)
		again, _ := Prove(s, h)
		spoilProof(again)
		another, _ := Order(h)
		spoil(another, 77)
		if !slices.Equal(h, kept) || !slices.Equal(s.First, first) {
			t.Fatalf("%s became %s, %v became %v", asText(kept), asText(h), first, s.First)
		}
		spoil(h[:len(h):len(h)], api.Event{Thread: 77})
		spoil(s.First[:len(s.First):len(s.First)], 77)
		if !slices.EqualFunc(blocks, modelBlocks(kept), sameBlock) || !slices.Equal(order, modelOrder(kept)) || !slices.Equal(proof.Order, order) {
			t.Fatalf("%s: the answers are others now", asText(kept))
		}
		if proof.Wrong != -1 || slices.Contains(proof.Cells, 77) || slices.ContainsFunc(proof.Threads, func(th api.Thread) bool { return th.At == 77 }) {
			t.Fatalf("%s: the proof is %+v now", asText(kept), proof)
		}
	}
}

// No two lists of one answer share memory, spare room included.
func TestListsOfOneAnswer(t *testing.T) {
	d := drawn(33)
	for range 200 {
		h := d.history(60, 1+d.below(4), true)
		l, _ := Blocks(h)
		want := modelBlocks(h)
		for n, b := range l {
			spoil(b.Reads, api.Entry{Own: true})
			if !slices.Equal(b.Writes, want[n].Writes) {
				t.Fatalf("%s: the Writes of block %d are %v now", asText(h), n, b.Writes)
			}
			spoil(b.Writes, api.Entry{Own: true})
			if n+1 < len(l) && !sameBlock(l[n+1], want[n+1]) {
				t.Fatalf("%s: block %d is %+v now", asText(h), n+1, l[n+1])
			}
		}
	}
}
