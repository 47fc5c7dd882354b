package races

import (
	"testing"

	"parley/api"
	"parley/sched"
)

// P18.5: nothing is ahead of itself, nor of one that is ahead of it; who is ahead of one that is ahead of a third is ahead of that; of one thread's points the earlier one is ahead of the later one.
func TestAheadIsAnOrder(t *testing.T) {
	d := drawn(11)
	thirds := 0
	for n := range 60 {
		h := d.history(40, 2+d.below(7), 2)
		if n%2 == 0 {
			h = few(run(t, d.script(150)).Events)
		}
		ahead := make([][]bool, len(h))
		for e := range h {
			ahead[e] = make([]bool, len(h))
			for f := range h {
				ahead[e][f] = Ahead(h, e, f)
			}
		}
		of := modelOf(h, modelPoints(h))
		for e := range h {
			for f := range h {
				if ahead[e][f] && (e == f || of[e] == of[f] || ahead[f][e]) {
					t.Fatalf("%s: %d is ahead of %d", asText(h), e, f)
				}
				if e < f && h[e].Thread == h[f].Thread && of[e] >= 0 && of[f] >= 0 && of[e] != of[f] && !ahead[e][f] {
					t.Fatalf("%s: %d is not ahead of %d", asText(h), e, f)
				}
				for g := range h {
					if ahead[e][f] && ahead[f][g] {
						if thirds++; !ahead[e][g] {
							t.Fatalf("%s: %d is not ahead of %d, by %d", asText(h), e, g, f)
						}
					}
				}
			}
		}
	}
	if thirds < 50000 {
		t.Errorf("%d thirds", thirds)
	}
}

// P18.5: a history without plain accesses is Quiet.
func TestQuietWithoutPlain(t *testing.T) {
	d := drawn(12)
	for range 500 {
		var h []api.Event
		for _, e := range d.history(100, 1+d.below(8), 1+d.below(2)) {
			if e.Kind != api.Loaded && e.Kind != api.Stored {
				h = append(h, e)
			}
		}
		racesAre(t, h)
	}
}

// held is, of a run that ends while a block holds the lock, where it took it, and the cells that it writes; else a place behind all events.
func held(o api.Outcome) (from int, cells map[uint64]struct{}) {
	cells = map[uint64]struct{}{}
	if o.Clock%2 == 0 {
		return len(o.Events), cells
	}
	from = len(o.Events) - 1
	for o.Events[from].Kind != api.Locked {
		from--
	}
	for n := from; n >= 0; n-- {
		e := o.Events[n]
		if e.Thread == o.Events[from].Thread && e.Kind == api.Begin {
			break
		}
		if e.Thread == o.Events[from].Thread && e.Kind == api.Write {
			cells[e.Addr] = struct{}{}
		}
	}
	return from, cells
}

// loadsTell asks each Loaded of a run that is quiet for what it must tell; how many there are, and whether it is quiet. Left out are loads of what a block that holds the lock to the end writes: it stands in the cells already, though the block is not over.
func loadsTell(t *testing.T, s api.Script, o api.Outcome) (int, bool) {
	t.Helper()
	if !Quiet(o.Events) {
		return 0, false
	}
	count := 0
	from, cells := held(o)
	for e, event := range o.Events {
		_, written := cells[event.Addr]
		if event.Kind == api.Loaded && !(e > from && written) {
			tells(t, o.Events, s.First, e, event.Word, true)
			count++
		}
	}
	return count, true
}

// P18.6: of drawn scripts, by many picks, those runs that are quiet.
func TestQuietRunsTell(t *testing.T) {
	d := drawn(13)
	loads := 0
	for range 6000 {
		s := d.script(120)
		s.Programs = s.Programs[:min(len(s.Programs), 1+d.below(3))]
		count, _ := loadsTell(t, s, run(t, s))
		if loads += count; t.Failed() {
			return
		}
	}
	if loads < 3000 {
		t.Errorf("%d loads", loads)
	}
}

// turnsTaken is a script of threads that hand a turn on in the cell 0: who has it loads the cells 1 and 2 plainly, adds its own number and 1 to both, one of them in its block, the other one by a store, and hands it on.
func turnsTaken(threads int) api.Script {
	s := api.Script{Cells: 3, First: []uint64{0, 100, 200}}
	for n := range threads {
		p := prog("const 1 0 | const 2 1 | const 3 0 | const 6 2 | begin | get 0 7 | equal 0 0 1 | zero 0 10 | end | jump 12 | end | jump 4 | load 4 2 | add 4 4 1 | add 4 4 2 | store 4 2 | load 5 6 | add 5 5 1 | add 5 5 2 | begin | put 3 7 | put 5 6 | end | jump 4")
		p[0].N, p[2].N = uint64(n), uint64((n+1)%threads)
		s.Programs = append(s.Programs, p)
	}
	return s
}

// P18.6, P0.5: what a block has handed on to a thread alone is loaded and stored plainly, without a race, whatever the picks.
func TestTurnsAreQuiet(t *testing.T) {
	d := drawn(14)
	loads := 0
	for n := range 120 {
		s := turnsTaken(2 + n%7)
		s.Picks = d.picks(1500)
		o := run(t, s)
		count, quiet := loadsTell(t, s, o)
		if loads += count; !quiet || t.Failed() {
			t.Fatalf("%v: quiet %v", s.Picks, quiet)
		}
	}
	if loads < 1000 {
		t.Errorf("%d loads", loads)
	}
}

// P18.6, P0.5: DOC.md's example 5. A node of two cells, at 2, hangs on the cell 0; thread 0 takes it out, and then stores and loads its cells plainly; thread 1 adds to both in a block, if it still hangs there.
func TestTakenOutIsQuiet(t *testing.T) {
	s := script(4, []uint64{2, 0, 10, 20},
		"const 3 1 | const 5 7 | begin | get 1 0 | put 0 0 | end | add 2 1 3 | load 4 1 | store 5 1 | load 4 2 | store 5 2 | load 4 1 | halt",
		"const 3 1 | begin | get 1 0 | zero 1 9 | get 4 1 | add 4 4 3 | put 4 1 | add 2 1 3 | get 5 2 | end | begin | get 6 0 | zero 6 14 | get 5 6 | end | halt")
	const most = 14
	words := map[uint64]int{}
	stale := 0
	for picks := range 1 << most {
		r, err := sched.New(s)
		if err != api.OK {
			t.Fatal(err)
		}
		for range picks % 7 {
			r.Pick(uint32(picks & 1))
		}
		for n := range most {
			r.Pick(uint32(picks >> n & 1))
		}
		r.Turns(400)
		o := r.Outcome()
		if count, quiet := loadsTell(t, s, o); count != 3 || !quiet || t.Failed() {
			t.Fatalf("%b: %s: %d loads, quiet %v", picks, asText(o.Events), count, quiet)
		}
		first := true
		for _, e := range o.Events {
			if e.Kind == api.Loaded && first {
				words[e.Word]++
				first = false
			}
			stale += cut(e.Kind == api.Stale)
		}
	}
	if len(words) != 2 || words[10] == 0 || words[11] == 0 || stale == 0 {
		t.Errorf("%v, %d stale", words, stale)
	}
}

// P18.6: the same two threads, of which thread 0 does not take the node out: there are runs with races then.
func TestNotTakenOutRaces(t *testing.T) {
	s := script(4, []uint64{2, 0, 10, 20},
		"const 3 1 | begin | get 1 0 | put 1 3 | end | load 4 1 | halt",
		"const 3 1 | begin | get 1 0 | get 4 1 | add 4 4 3 | put 4 1 | end | halt")
	noisy, quiet := 0, 0
	d := drawn(15)
	for range 300 {
		s.Picks = d.picks(60)
		o := run(t, s)
		if _, q := loadsTell(t, s, o); q {
			quiet++
		} else {
			noisy++
		}
	}
	if noisy < 50 || quiet < 1 {
		t.Errorf("%d with races, %d without", noisy, quiet)
	}
}
