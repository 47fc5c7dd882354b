package opaque

import (
	"slices"
	"testing"

	"parley/api"
	"parley/plain"
	"parley/sched"
)

// follows asks for what P16.4 says of all histories here, and tells how many attempts there are, and how many of them have no At.
func follows(t *testing.T, first []uint64, h []api.Event) (attempts, none int) {
	t.Helper()
	l, odd := Sights(first, h)
	if odd != fine {
		t.Fatal(odd)
	}
	for _, s := range l {
		words := modelRead(h, s.First)
		numbers, _ := Together(first, h, words...)
		switch {
		case s.At < 0:
			none++
		case s.At < s.From || s.At > s.Upto || !slices.Contains(numbers, s.At):
			t.Fatalf("%s: %+v, but Together of %v answers %v", asText(h), s, words, numbers)
		}
		if len(words) == 0 && s.At != s.Upto {
			t.Fatalf("%s: %+v has read nothing", asText(h), s)
		}
	}
	never, _ := Never(first, h)
	if n, _ := Check(first, h); (n >= 0) != (none > 0) || len(never) > 0 && n == -1 {
		t.Fatalf("%s: Check answers %d, Never %v, %d have no At", asText(h), n, never, none)
	}
	isBehind(t, first, h, 0, first...)
	return len(l), none
}

// P16.4 (P0.3): of each history of a run Check is -1, wherever its picks end, and each attempt that read alone and committed has read what stood at its snapshot's number.
func TestRunsHaveSeenWhatWas(t *testing.T) {
	d := drawn(11)
	hows, alone, moved := map[api.EventKind]int{}, 0, 0
	for range 2000 {
		s := d.script()
		first, h := allFirst(s), run(t, s)
		if _, none := follows(t, first, h); none > 0 {
			t.Fatalf("%s: %d attempts have seen what never was", asText(h), none)
		}
		checks(t, first, h, -1)
		neverStood(t, first, h)
		l, _ := Sights(first, h)
		for _, a := range l {
			hows[a.How]++
			if a.Snapshot > 2*uint64(a.From) {
				moved++
			}
			if a.How == api.Committed && a.Writes == 0 && a.Reads > 0 {
				alone++
				if numbers, _ := Together(first, h, modelRead(h, a.First)...); !slices.Contains(numbers, int(a.Snapshot/2)) {
					t.Fatalf("%s: %+v has read what stood at %v", asText(h), a, numbers)
				}
			}
		}
	}
	for _, how := range []api.EventKind{0, api.Committed, api.Stale, api.Aborted, api.Failed} {
		if hows[how] < 100 {
			t.Errorf("attempts: %v", hows)
		}
	}
	if alone < 100 || moved < 100 {
		t.Errorf("%d have read alone, %d have moved", alone, moved)
	}
}

// P16.4: each beginning of a run's picks is a run.
func TestBeginningsHaveSeenWhatWas(t *testing.T) {
	d := drawn(12)
	for range 60 {
		s := d.script()
		r, _ := sched.New(s)
		for _, n := range s.Picks {
			if l, _ := r.Pick(n); len(l) > 0 {
				if h := r.Outcome().Events; !t.Failed() {
					checks(t, allFirst(s), h, -1)
				}
			}
		}
	}
}

// P16.4: of a small script all picks of some length, the threads then going on by turns.
func TestAllPicksHaveSeenWhatWas(t *testing.T) {
	s := script(2, []uint64{5}, "const 2 1 | begin | get 0 1 | get 3 2 | end | halt", "const 2 1 | const 3 7 | begin | put 3 1 | put 3 2 | end | halt")
	const most = 14
	seen := map[[2]uint64]int{}
	for picks := range 1 << most {
		r, _ := sched.New(s)
		for n := range most {
			r.Pick(uint32(picks >> n & 1))
		}
		r.Turns(200)
		h := r.Outcome().Events
		checks(t, allFirst(s), h, -1)
		l, _ := Sights(allFirst(s), h)
		for _, a := range l {
			if words := modelRead(h, a.First); len(words) == 2 {
				seen[[2]uint64{words[0].Word, words[1].Word}]++
			}
		}
	}
	if len(seen) != 2 || seen[[2]uint64{5, 0}] == 0 || seen[[2]uint64{7, 7}] == 0 {
		t.Errorf("two words were read together: %v", seen)
	}
}

// P16.4: drawn histories, and those of runs with words changed: what follows holds whether Check is -1 or not.
func TestWhatFollows(t *testing.T) {
	d := drawn(13)
	attempts, none, never := 0, 0, 0
	ask := func(first []uint64, h []api.Event) {
		t.Helper()
		a, n := follows(t, first, h)
		attempts, none = attempts+a, none+n
		l, _ := Never(first, h)
		never += len(l)
	}
	for range 500 {
		cells := 1 + d.below(4)
		ask(d.first(cells), d.history(60, 1+d.below(8), cells))
		s := d.script()
		if h, ok := d.changed(run(t, s)); ok {
			ask(allFirst(s), h)
		}
	}
	if attempts < 2000 || none < 500 || never < 200 {
		t.Errorf("%d attempts, %d without an At, %d words that never stood", attempts, none, never)
	}
}

// elsewhere is a history whose attempts without Writes have read what stood at drawn numbers from their From to their Upto.
func (d *drawn) elsewhere(first []uint64, h []api.Event) []api.Event {
	h = slices.Clone(h)
	states := modelStates(first, h)
	for _, s := range modelSights(first, h) {
		if s.Writes > 0 {
			continue
		}
		cells := states[s.From+d.below(s.Upto-s.From+1)]
		_, places := attemptOf(h, s.First)
		for _, at := range places {
			if h[at].Kind == api.Read {
				h[at].Word = cells[h[at].Addr]
			}
		}
	}
	return h
}

// P16.4: a committed attempt that was not Locked, played again at its snapshot's number, reads the same only if Together says so of that number.
func TestPlayedAgain(t *testing.T) {
	d := drawn(14)
	const reads = "begin | const 1 1 | get 2 0 | get 3 1 | get 4 0 | end | jump 0"
	s := script(2, []uint64{3, 4}, reads, "begin | get 2 0 | const 3 1 | add 2 2 3 | put 2 0 | end | jump 0", "const 1 1 | begin | get 2 1 | const 3 0 | put 3 1 | put 2 0 | end | jump 0", reads)
	same, other := 0, 0
	for range 300 {
		s.Picks = d.picks(150)
		h := run(t, s)
		if d.below(2) == 0 {
			h = d.elsewhere(s.First, h)
		}
		l, _ := Sights(s.First, h)
		for _, a := range l {
			if a.How != api.Committed || a.Writes > 0 || a.At < 0 {
				continue
			}
			number := int(a.Snapshot / 2)
			cells, _ := Behind(s.First, h, number)
			again, err := plain.Block(s.Programs[a.Thread], 0, [api.Regs]uint64{}, cells)
			if err != api.OK {
				t.Fatal(err)
			}
			var words []api.Cell
			for _, r := range again.Reads {
				words = append(words, api.Cell{Addr: r.Addr, Word: r.Word})
			}
			numbers, _ := Together(s.First, h, modelRead(h, a.First)...)
			if slices.Equal(words, modelRead(h, a.First)) {
				same++
				if !slices.Contains(numbers, number) {
					t.Fatalf("%s: %+v reads the same at %d, but Together answers %v", asText(h), a, number, numbers)
				}
			} else if other++; slices.Contains(numbers, number) {
				// Its addresses hang on nothing, so the way back holds, too.
				t.Fatalf("%s: %+v reads %v at %d, but Together answers %v", asText(h), a, words, number, numbers)
			}
		}
	}
	if same < 500 || other < 20 {
		t.Errorf("%d have read the same again, %d have not", same, other)
	}
}

// P16.4: a run of as many picks as may be.
func TestLongRun(t *testing.T) {
	const anew = "begin | get 0 1 | const 2 1 | add 0 0 2 | put 0 1 | end | jump 0"
	s := script(2, nil, anew, anew, "begin | get 0 1 | get 3 2 | end | jump 0", "begin | get 0 1 | abort 0")
	d := drawn(15)
	for range api.MaxPicks {
		s.Picks = append(s.Picks, uint32(d.next()))
	}
	h := run(t, s)
	first := allFirst(s)
	checks(t, first, h, -1)
	neverStood(t, first, h)
	numbers, odd := Together(first, h, api.Cell{Addr: 1})
	cells, _ := Behind(first, h, len(numbers)-1)
	// Each commit adds 1, so each number's word is the number.
	if last := uint64(len(numbers) - 1); odd != fine || last < 10000 || !slices.Equal(cells, []uint64{last, 0}) {
		t.Errorf("%v behind %d numbers, %v", cells, len(numbers), odd)
	}
	for _, n := range []int{0, 1, 777, len(numbers) - 1} {
		standTogether(t, first, h, cellList(0, uint64(n)), n)
	}
}

// Long histories that are awkward: one cell's words and reads of them in great numbers, none of which may cost what all others have.
func TestLongHistories(t *testing.T) {
	const many = 60000
	words := make([]uint64, many)
	for n := range words {
		words[n] = uint64(n % 2)
	}
	commits := chain(0, words...)

	// One attempt goes on all along, and reads one cell again and again, and all others.
	h := append([]api.Event{{Kind: api.Begin}}, commits...)
	for n := range uint64(many) {
		h = append(h, api.Event{Kind: api.Read, Word: 1}, api.Event{Kind: api.Read, Addr: 1 + n})
	}
	first := make([]uint64, many+1)
	if l, odd := Sights(first, h); odd != fine || len(l) != many+1 || l[0] != see(0, 0, len(h)-1, 0, 0, 2*many, 0, 0, many, many) {
		t.Errorf("%v", odd)
	}
	h[len(h)-2].Word = 0
	checks(t, first, h, 0)

	// Many short attempts, each of which reads the cell once, and then words that never stood.
	h = slices.Clone(commits)
	for n := range uint64(many) {
		h = append(h, api.Event{Kind: api.Begin, Word: 2 * many}, api.Event{Kind: api.Read, Word: 1}, api.Event{Kind: api.Stale})
		h = append(h, api.Event{Kind: api.Begin, Word: 2 * many}, api.Event{Kind: api.Read, Word: many + n}, api.Event{Kind: api.Stale})
	}
	checks(t, []uint64{0}, h, many+1)
	if l, odd := Never([]uint64{0}, h); odd != fine || len(l) != many || l[0] != (api.Cell{Word: many}) || l[many-1] != (api.Cell{Word: 2*many - 1}) {
		t.Errorf("%d never stood, %v", len(l), odd)
	}

	// Together of one cell again and again, of one word and of many.
	var same, all []api.Cell
	for n := range uint64(many) {
		same, all = append(same, api.Cell{Word: 1}), append(all, api.Cell{Word: n})
	}
	if l, odd := Together([]uint64{0}, commits, same...); odd != fine || len(l) != many/2 || l[0] != 2 || l[len(l)-1] != many {
		t.Errorf("%d numbers, %v", len(l), odd)
	}
	standTogether(t, []uint64{0}, commits, all)
}
