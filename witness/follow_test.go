package witness

import (
	"slices"
	"testing"

	"parley/api"
	"parley/events"
	"parley/sched"
)

// isProved asks for the proof of a run: its cells, if the clock is even, and each thread as it was behind its last block that was over.
func isProved(t *testing.T, s api.Script, o api.Outcome, threads []api.Thread) {
	t.Helper()
	p, err := Prove(s, o.Events)
	if err != api.OK || p.Wrong != -1 {
		t.Fatalf("%s is not proved: %+v, %v", asText(o.Events), p, err)
	}
	if o.Clock%2 == 0 && !slices.Equal(p.Cells, o.Cells) {
		t.Fatalf("%s: the cells are %v, not %v", asText(o.Events), p.Cells, o.Cells)
	}
	for n, want := range threads {
		if got := p.Threads[n]; got.Status != want.Status || got.Err != want.Err || got.At != want.At || got.Regs != want.Regs || got.Inside {
			t.Fatalf("%s: thread %d stands at %+v, not %+v", asText(o.Events), n, got, want)
		}
	}
}

// closely does a script's picks one by one: the outcome, and each thread as it was behind its last block that was over.
func closely(t *testing.T, s api.Script) (api.Outcome, []api.Thread) {
	t.Helper()
	d, err := sched.New(s)
	if err != api.OK {
		t.Fatal(err)
	}
	threads := d.Outcome().Threads
	for _, n := range s.Picks {
		l, _ := d.Pick(n)
		for _, e := range l {
			if e.Kind == api.Committed || e.Kind == api.Aborted || e.Kind == api.Failed {
				threads[e.Thread] = d.Outcome().Threads[e.Thread]
			}
		}
	}
	return d.Outcome(), threads
}

// P15.4: the history of every run of a script without plain accesses is proved, wherever its picks end.
func TestRunsAreProved(t *testing.T) {
	d := drawn(21)
	counts, odd, moved := map[api.BlockKind]int{}, 0, 0
	for range 1500 {
		s := d.script()
		o, threads := closely(t, s)
		isProved(t, s, o, threads)
		odd += int(o.Clock % 2)
		l, _ := Blocks(o.Events)
		for _, b := range l {
			counts[b.Kind]++
		}
		for _, e := range o.Events {
			if e.Kind == api.Moved {
				moved++
			}
		}
	}
	for kind := api.BlockCommitted; kind <= api.BlockOpen; kind++ {
		if counts[kind] < 50 {
			t.Errorf("blocks: %v", counts)
		}
	}
	if odd < 20 || moved < 200 {
		t.Errorf("%d runs end with the lock held, %d validations went well", odd, moved)
	}
}

// P15.4: each beginning of a run's picks is a run.
func TestBeginningsAreProved(t *testing.T) {
	d := drawn(22)
	for range 40 {
		s := d.script()
		r, _ := sched.New(s)
		for _, n := range s.Picks {
			if l, _ := r.Pick(n); len(l) > 0 {
				isProved(t, s, r.Outcome(), nil)
			}
		}
	}
}

// P15.4: of a small script all picks of some length, the threads then going on by turns.
func TestAllPicksAreProved(t *testing.T) {
	s := script(2, []uint64{5}, "begin | get 0 1 | put 0 1 | end | begin | get 2 1 | end | halt", "begin | get 0 1 | const 2 1 | add 0 0 2 | put 0 1 | put 0 2 | end | halt")
	const most = 13
	orders := map[[3]int]int{}
	for picks := range 1 << most {
		r, _ := sched.New(s)
		for n := range most {
			r.Pick(uint32(picks >> n & 1))
		}
		r.Turns(200)
		o := r.Outcome()
		if !r.AtRest() || o.Clock != 4 {
			t.Fatalf("picks %b: %+v", picks, o)
		}
		isProved(t, s, o, nil)
		order, _ := Order(o.Events)
		l, _ := Blocks(o.Events)
		if len(order) != 3 {
			t.Fatalf("picks %b: %v", picks, order)
		}
		orders[[3]int{l[order[0]].Thread, l[order[1]].Thread, l[order[2]].Thread}]++
	}
	if len(orders) != 3 {
		t.Errorf("threads' orders: %v", orders)
	}
}

// P15.4: a run of as many picks as may be.
func TestLongRunIsProved(t *testing.T) {
	const anew = "begin | get 0 1 | const 2 1 | add 0 0 2 | put 0 1 | end | jump 0"
	s := script(1, nil, anew, anew, "begin | get 0 1 | end | jump 0")
	d := drawn(23)
	for range api.MaxPicks {
		s.Picks = append(s.Picks, uint32(d.next()))
	}
	isProved(t, s, run(t, s), nil)
}

// P15.5: a block that is over and ahead of another one that is over stands ahead of it in the order; of drawn histories, too.
func TestAheadInTheOrder(t *testing.T) {
	d := drawn(24)
	seen := 0
	ask := func(h []api.Event) {
		t.Helper()
		order, _ := Order(h)
		for at, b := range order {
			for _, a := range order[at:] {
				if Ahead(h, a, b) {
					t.Fatalf("Order of %s answers %v, but %d is ahead of %d", asText(h), order, a, b)
				}
			}
			for _, a := range order[:at] {
				if Ahead(h, a, b) {
					seen++
				}
			}
		}
	}
	for range 150 {
		ask(run(t, d.script()).Events)
		ask(d.history(60, 1+d.below(8), true))
	}
	if seen < 1000 {
		t.Errorf("no more than %d blocks are ahead of others", seen)
	}
}

// P15.6: the numbers of writing blocks are 1, 2, 3 and so on, in the order of their Committeds.
func TestNumbersOfWritingBlocks(t *testing.T) {
	d := drawn(25)
	most := 0
	for n := range 400 {
		h := run(t, d.script()).Events
		if n%2 == 0 {
			h = d.history(60, 1+d.below(8), true)
		}
		l, _ := Blocks(h)
		l = slices.DeleteFunc(l, func(b api.Block) bool { return !b.Writing })
		slices.SortFunc(l, func(a, b api.Block) int { return a.Last - b.Last })
		for n, b := range l {
			if b.Number != uint64(n)+1 || b.Kind != api.BlockCommitted || h[b.Last].Kind != api.Committed || len(b.Writes) == 0 {
				t.Fatalf("%s: the writing block %d is %+v", asText(h), n, b)
			}
		}
		most = max(most, len(l))
	}
	if most < 6 {
		t.Errorf("no more than %d writing blocks", most)
	}
}

// accesses are the places of a block's Reads and Writes in its history.
func accesses(h []api.Event, b api.Block) []int {
	var l []int
	for at := b.First; at <= b.Last; at++ {
		if e := h[at]; e.Thread == b.Thread && (e.Kind == api.Read || e.Kind == api.Write) {
			l = append(l, at)
		}
	}
	return l
}

// exchanged is a history with two blocks' words exchanged, access by access; false, if their accesses are not alike but for their words.
func exchanged(h []api.Event, a, b api.Block) ([]api.Event, bool) {
	x, y := accesses(h, a), accesses(h, b)
	h = slices.Clone(h)
	for n := range min(len(x), len(y)) {
		p, q := &h[x[n]], &h[y[n]]
		if p.Kind != q.Kind || p.Addr != q.Addr || p.Own != q.Own {
			return nil, false
		}
		p.Word, q.Word = q.Word, p.Word
	}
	return h, len(x) == len(y)
}

// meets tells whether a block reads what another one writes.
func meets(a, b api.Block) bool {
	return slices.ContainsFunc(a.Reads, func(r api.Entry) bool {
		return slices.ContainsFunc(b.Writes, func(w api.Entry) bool { return w.Addr == r.Addr })
	})
}

// P15.6: two writing blocks' words exchanged, one of which reads what the other one writes: it is proved no more, and the earlier one is the first wrong one, unless what is read is the same.
func TestWordsExchanged(t *testing.T) {
	d := drawn(26)
	programs := []string{
		"begin | get 0 1 | const 2 1 | add 0 0 2 | put 0 1 | end | jump 0",
		"begin | get 0 1 | const 2 2 | add 0 0 2 | put 0 1 | get 3 1 | end | jump 0",
		"const 4 1 | begin | get 0 4 | get 3 1 | put 3 4 | put 0 1 | end | jump 1",
		"begin | get 0 1 | put 0 1 | end | jump 0",
	}
	wrong, same := 0, 0
	for range 300 {
		s := script(2, []uint64{5, 6}, programs[d.below(4)], programs[d.below(4)], programs[d.below(4)])
		for range 120 {
			s.Picks = append(s.Picks, uint32(d.next()))
		}
		h := run(t, s).Events
		order, _ := Order(h)
		l, _ := Blocks(h)
		for at, n := range order {
			for _, m := range order[at+1:] {
				a, b := l[n], l[m]
				other, alike := exchanged(h, a, b)
				if !a.Writing || !b.Writing || !alike || !meets(a, b) && !meets(b, a) {
					continue
				}
				p, err := Prove(s, other)
				if err != api.OK || !slices.Equal(p.Order, order) {
					t.Fatalf("%s: %+v, %v", asText(other), p, err)
				}
				if slices.Equal(a.Reads, b.Reads) {
					same++
				} else if wrong++; p.Wrong != at || p.Cells != nil || p.Threads != nil {
					t.Fatalf("%s is %+v with the words of %d and %d exchanged", asText(h), p, n, m)
				}
			}
		}
	}
	if wrong < 1000 || same < 500 {
		t.Errorf("%d are proved no more, of %d the same is read", wrong, same)
	}
}

// P15.6: the numbers of two writing blocks exchanged: such a history can't be.
func TestNumbersExchanged(t *testing.T) {
	s, h := second(t)
	l, _ := Blocks(h)
	h[l[0].Last].Word, h[l[1].Last].Word = h[l[1].Last].Word, h[l[0].Last].Word
	if events.Check(h).Err != api.ErrNumber {
		t.Fatal(events.Check(h))
	}
	refuses(t, s, h, api.ErrNumber)
}
