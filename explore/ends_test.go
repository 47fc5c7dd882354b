package explore

import (
	"slices"
	"testing"

	"parley/api"
)

// regs is registers, the first of them being these.
func regs(words ...uint64) []uint64 { return append(words, make([]uint64, 8-len(words))...) }

// P19.2: ends in the order of their cells: the first address at which they differ, the lesser word first, however great words are.
func TestEndsByCells(t *testing.T) {
	s := script(3, []uint64{0, 0, top},
		"const 2 18446744073709551615 | begin | put 2 0 | end | halt",
		"const 2 9223372036854775808 | const 1 2 | begin | put 2 0 | put 7 1 | end | const 1 0 | halt",
		"begin | get 3 0 | const 1 1 | put 3 1 | end | const 1 0 | halt")
	agrees(t, s, 20000)
	l, err := Ends(s)
	var got [][]uint64
	for _, e := range l {
		got = append(got, e.Cells)
	}
	want := [][]uint64{{1 << 63, 0, 0}, {1 << 63, 1 << 63, 0}, {1 << 63, top, 0}, {top, 0, 0}, {top, 1 << 63, 0}, {top, top, 0}}
	if got = slices.CompactFunc(got, slices.Equal[[]uint64]); err != api.OK || !slices.EqualFunc(got, want, slices.Equal[[]uint64]) {
		t.Errorf("the cells are %v, %v", got, err)
	}
}

// P19.2: of the same cells by statuses, of the same statuses by errors, of the same errors by registers: each row thread by thread.
func TestEndsByThreads(t *testing.T) {
	// The thread 0 stores 0, 1, 2, 3 in the cell 1, and then 0. The threads 1 and 2 load that and go on by it: 0: halt; 1: halt with another register 5; 2: ErrRange; 3: ErrFull.
	const chooser = "const 1 1 | const 2 2 | load 0 1 | zero 0 19 | equal 3 0 1 | zero 3 9 | const 0 0 | const 5 1 | halt | equal 3 0 2 | zero 3 14 | const 3 0 | const 0 0 | load 4 2 | const 3 0 | const 0 0 | begin | get 4 7 | jump 17 | const 3 0 | halt"
	s := script(2, nil, "const 1 1 | const 2 2 | const 3 3 | store 1 1 | store 2 1 | store 3 1 | store 0 1 | halt", chooser)
	one := regs(0, 1, 2)
	l, err := Ends(s)
	if err != api.OK || len(l) != 4 {
		t.Fatalf("%v, %v", l, err)
	}
	ended := []api.Status{api.Ended, api.Ended}
	broken := []api.Status{api.Ended, api.Broken}
	none := []api.Errno{0, 0}
	for n, want := range []api.End{
		{Status: ended, Errs: none, Regs: [][]uint64{regs(0, 1, 2, 3), one}},
		{Status: ended, Errs: none, Regs: [][]uint64{regs(0, 1, 2, 3), {0, 1, 2, 1, 0, 1, 0, 0}}},
		{Status: broken, Errs: []api.Errno{0, api.ErrRange}, Regs: [][]uint64{regs(0, 1, 2, 3), one}},
		{Status: broken, Errs: []api.Errno{0, api.ErrFull}, Regs: [][]uint64{regs(0, 1, 2, 3), one}},
	} {
		want.Cells, want.Picks = []uint64{0, 0}, l[n].Picks
		if !sameEnd(l[n], want) {
			t.Errorf("end %d is %v, not %v", n, l[n], want)
		}
	}
	for _, e := range l {
		comesBy(t, s, e)
	}
}

// Statuses of all threads are ahead of errors of any, and errors of all ahead of registers of any.
func TestEndsRowByRow(t *testing.T) {
	// Two threads, each of which breaks or halts by what the third one has stored; with another register by that, too.
	const chooser = "load 0 7 | zero 0 3 | load 1 0 | const 2 1 | halt"
	s := script(1, nil, chooser, chooser, "const 0 9 | store 0 7 | const 0 0 | store 0 7 | halt")
	agrees(t, s, 20000)
	l, err := Ends(s)
	if err != api.OK || len(l) != 4 {
		t.Fatalf("%v, %v", l, err)
	}
	var statuses [][]api.Status
	for _, e := range l {
		statuses = append(statuses, e.Status[:2])
	}
	want := [][]api.Status{{api.Ended, api.Ended}, {api.Ended, api.Broken}, {api.Broken, api.Ended}, {api.Broken, api.Broken}}
	if !slices.EqualFunc(statuses, want, slices.Equal[[]api.Status]) {
		t.Errorf("the statuses are %v", statuses)
	}
}

// The order by hand, over each pair of ends that differ from that place on.
func TestOrderOfEnds(t *testing.T) {
	x := newStage(script(2, nil, "halt", "halt"))
	at := func(cells []uint64, clock uint64, threads ...api.Thread) *state {
		s := &state{cells: x.rows.of(cells), clock: clock}
		for n, thread := range threads {
			s.threads[n] = x.stands.put(thread)
		}
		return s
	}
	th := func(status api.Status, err api.Errno, place int, words ...uint64) api.Thread {
		return api.Thread{Status: status, Err: err, At: place, Regs: [8]uint64(regs(words...))}
	}
	const ended, broken = api.Ended, api.Broken
	rising := []*state{
		at([]uint64{0, 0}, 2, th(ended, 0, 3), th(ended, 0, 3)),
		at([]uint64{0, 0}, 0, th(ended, 0, 2), th(ended, 0, 2, 1)),
		at([]uint64{0, 0}, 0, th(ended, 0, 2), th(ended, 0, 2, top)),
		at([]uint64{0, 0}, 0, th(ended, 0, 2, 0, 0, 0, 0, 0, 0, 0, 1), th(ended, 0, 2)),
		at([]uint64{0, 0}, 0, th(ended, 0, 2, 0, 1), th(ended, 0, 2, 1)),
		at([]uint64{0, 0}, 0, th(ended, 0, 2, 1), th(ended, 0, 2)),
		at([]uint64{0, 0}, 0, th(ended, 0, 2, 9), th(broken, 4, 2, 9)),
		at([]uint64{0, 0}, 0, th(ended, 0, 2), th(broken, 5, 2)),
		at([]uint64{0, 0}, 0, th(broken, 4, 2), th(ended, 0, 2)),
		at([]uint64{0, 0}, 0, th(broken, 6, 2), th(ended, 0, 2)),
		at([]uint64{0, 0}, 0, th(broken, 4, 2, 9), th(broken, 5, 2)),
		at([]uint64{0, 0}, 0, th(broken, 4, 2), th(broken, 210, 2)),
		at([]uint64{0, 0}, 0, th(broken, 5, 2), th(broken, 4, 2)),
		at([]uint64{0, 1}, 0, th(ended, 0, 2), th(ended, 0, 2)),
		at([]uint64{0, top}, 0, th(ended, 0, 2), th(ended, 0, 2)),
		at([]uint64{1, 0}, 0, th(ended, 0, 2), th(ended, 0, 2)),
		at([]uint64{1 << 63, 0}, 0, th(ended, 0, 2), th(ended, 0, 2)),
		at([]uint64{top, 0}, 0, th(ended, 0, 2), th(ended, 0, 2)),
	}
	for a, s := range rising {
		for b, z := range rising {
			want := 0
			switch {
			case a < b:
				want = -1
			case a > b:
				want = 1
			}
			if got := s.compareEnds(z); got != want {
				t.Errorf("%d and %d: %d, not %d", a, b, got, want)
			}
		}
	}
	if c := rising[0].compareEnds(at([]uint64{0, 0}, 0, th(ended, 0, 1), th(ended, 0, 0))); c != 0 {
		t.Errorf("by the clock or a place: %d", c)
	}
}

// P19.2: ends that differ in nothing but the clock are one, of the lesser distance.
func TestEndsAreOneByTheClock(t *testing.T) {
	s := script(2, nil, "const 2 1 | store 2 2 | store 7 2 | const 2 0 | halt", "const 2 1 | load 0 2 | zero 0 6 | begin | put 7 7 | end | const 0 0 | const 2 0 | halt")
	m, _ := agrees(t, s, 1000)
	f := m.found()
	if f.Ends != 2 {
		t.Fatalf("%+v", f)
	}
	endsAre(t, s, api.End{
		Cells: []uint64{0, 0}, Status: []api.Status{api.Ended, api.Ended}, Errs: []api.Errno{0, 0}, Regs: [][]uint64{regs(), regs()},
		Picks: []uint32{0, 0, 0, 0, 0, 1, 1, 1, 1, 1, 1},
	})
}

// P19.2: ends that differ in nothing but places are one: of one distance the one whose picks come first, else that of the lesser distance, though its picks come later.
func TestEndsAreOneByPlaces(t *testing.T) {
	const stores = "const 2 1 | store 2 7 | store 7 7 | const 2 0 | halt"
	told := func(picks ...uint32) api.End {
		return api.End{Cells: []uint64{0}, Status: []api.Status{api.Ended, api.Ended}, Errs: []api.Errno{0, 0}, Regs: [][]uint64{regs(), regs()}, Picks: picks}
	}
	for _, x := range []struct {
		loads string
		want  api.End
	}{
		// As many steps by both ways: 0 0 0 0 0 comes first, and then the load finds 0.
		{"load 0 7 | zero 0 4 | const 0 0 | halt | const 0 0 | halt", told(0, 0, 0, 0, 0, 1, 1, 1, 1)},
		// The way of 1 is shorter: the thread 1 must load between the two stores.
		{"load 0 7 | zero 0 4 | const 0 0 | halt | const 1 1 | const 1 0 | halt", told(0, 0, 1, 0, 0, 0, 1, 1, 1)},
		// The way of 0 is.
		{"load 0 7 | zero 0 5 | const 0 1 | const 0 0 | halt | halt", told(0, 0, 0, 0, 0, 1, 1, 1)},
	} {
		s := script(1, nil, stores, x.loads)
		m, _ := agrees(t, s, 1000)
		if f := m.found(); f.Ends != 2 {
			t.Fatalf("%s: %+v", x.loads, f)
		}
		endsAre(t, s, x.want)
	}
	// With the threads' numbers the other way about, other picks come first.
	s := script(1, nil, "load 0 7 | zero 0 4 | const 0 0 | halt | const 0 0 | halt", stores)
	agrees(t, s, 1000)
	endsAre(t, s, told(0, 0, 0, 0, 1, 1, 1, 1, 1))
}

// P19.2: threads that break, with each error: plainly, in blocks, beside others that end.
func TestBrokenEnds(t *testing.T) {
	for _, x := range []struct {
		text  string
		err   api.Errno
		regs  []uint64
		picks int
	}{
		{"const 0 1 | load 1 0 | halt", api.ErrRange, regs(1), 2},
		{"const 0 18446744073709551615 | store 1 0 | halt", api.ErrRange, regs(top), 2},
		{"const 0 1 | begin | const 0 3 | get 1 0 | end | halt", api.ErrRange, regs(1), 4},
		{"const 0 1 | begin | put 1 0 | end | halt", api.ErrRange, regs(1), 3},
		{"begin | get 0 1 | jump 1", api.ErrFull, regs(), 1 + 3*api.MaxReads + 1},
		{"begin | jump 1", api.ErrFuel, regs(), 1 + api.MaxFuel + 1},
	} {
		s := script(1, nil, x.text)
		want := api.End{Cells: []uint64{0}, Status: []api.Status{api.Broken}, Errs: []api.Errno{x.err}, Regs: [][]uint64{x.regs}, Picks: make([]uint32, x.picks)}
		endsAre(t, s, want)
		picksAre(t, s, nil, want.Picks)
		mustIs(t, s, true, 0, 0)
		comesBy(t, s, want)
		s = script(1, nil, "halt", x.text, "halt")
		endsAre(t, s, api.End{
			Cells: []uint64{0}, Status: []api.Status{api.Ended, api.Broken, api.Ended}, Errs: []api.Errno{0, x.err, 0}, Regs: [][]uint64{regs(), x.regs, regs()},
			Picks: slices.Concat([]uint32{0}, slices.Repeat([]uint32{1}, x.picks), []uint32{2}),
		})
	}
	// A redo log that is full.
	s := script(2000, nil, "const 1 1 | begin | put 1 0 | add 0 0 1 | jump 2")
	endsAre(t, s, api.End{Cells: make([]uint64, 2000), Status: []api.Status{api.Broken}, Errs: []api.Errno{api.ErrFull}, Regs: [][]uint64{regs(0, 1)}, Picks: make([]uint32, 2+3*api.MaxWrites+1)})
}

// P19.2: of the picks to one end the fewest, of as many the first, of up to eight threads; no pick is above their number less 1.
func TestPicksOfEnds(t *testing.T) {
	for threads := 1; threads <= api.MaxThreads; threads++ {
		s := api.Script{Cells: 1}
		var last []uint32
		for n := range threads {
			p := prog("const 0 0 | store 0 1 | const 0 0 | halt")
			p[0].N = uint64(n)
			if threads > 5 {
				p = slices.Delete(p, 0, 1)
			}
			s.Programs = append(s.Programs, p)
			last = append(last, slices.Repeat([]uint32{uint32(n)}, len(p))...)
		}
		if threads == 8 {
			for n := range s.Programs {
				s.Programs[n] = prog("store 0 1 | halt")
			}
			last = nil
			for n := range threads {
				last = append(last, uint32(n), uint32(n))
			}
		}
		l, err := Ends(s)
		want := threads
		if threads > 5 {
			want = 1
		}
		if err != api.OK || len(l) != want {
			t.Fatalf("%d threads: %d ends, %v", threads, len(l), err)
		}
		if !slices.Equal(l[len(l)-1].Picks, last) {
			t.Errorf("%d threads: the picks are %v, not %v", threads, l[len(l)-1].Picks, last)
		}
		for _, e := range l {
			comesBy(t, s, e)
			if slices.Max(e.Picks) != uint32(threads-1) {
				t.Errorf("%d threads: the picks are %v", threads, e.Picks)
			}
		}
	}
	// To the cell 1 the store of the thread 1 must come first: as many of the thread 0's steps as may be stand ahead of it.
	s := script(1, nil, "const 0 1 | const 1 0 | store 0 1 | halt", "const 0 2 | store 0 1 | halt")
	picksAre(t, s, []uint64{1}, []uint32{0, 0, 1, 1, 0, 0, 1})
	picksAre(t, s, []uint64{2}, []uint32{0, 0, 0, 0, 1, 1, 1})
}

// P19.2: the fewest picks wait for nobody: no block is stale, where an end comes without that.
func TestFewestPicks(t *testing.T) {
	const up = "const 2 1 | begin | get 0 1 | add 0 0 2 | put 0 1 | end | halt"
	s := script(1, nil, up, up)
	agrees(t, s, 1000)
	ten := slices.Repeat([]uint32{0}, 10)
	then := slices.Repeat([]uint32{1}, 10)
	status, none := []api.Status{api.Ended, api.Ended}, []api.Errno{0, 0}
	// The thread 0 may do its const ahead of the other one's ten steps.
	endsAre(t, s,
		api.End{Cells: []uint64{2}, Status: status, Errs: none, Regs: [][]uint64{regs(1, 0, 1), regs(2, 0, 1)}, Picks: slices.Concat(ten, then)},
		api.End{Cells: []uint64{2}, Status: status, Errs: none, Regs: [][]uint64{regs(2, 0, 1), regs(1, 0, 1)}, Picks: slices.Concat([]uint32{0}, then[:9], ten[1:], []uint32{1})})
}

// A script without ends.
func TestNoEnds(t *testing.T) {
	for _, text := range []string{"jump 0", "load 0 1 | jump 0", "begin | abort 0", "begin | end | jump 0"} {
		s := script(1, nil, text)
		endsAre(t, s)
		if l, err := Ends(s); l != nil || err != api.OK {
			t.Errorf("%s: %v, %v", text, l, err)
		}
		s = script(1, nil, "const 0 1 | store 0 1 | halt", text)
		endsAre(t, s)
	}
}
