package sched

import (
	"math"
	"reflect"
	"slices"
	"testing"

	"parley/api"
)

// P12.2, P12.3, P12.4: of a nil and of a zero run nothing is told.
func TestNothingThere(t *testing.T) {
	for _, d := range []*Sched{nil, {}} {
		for _, n := range []uint32{0, 1, math.MaxUint32} {
			if l, err := d.Pick(n); l != nil || err != api.ErrNil {
				t.Errorf("Pick(%d) answers %v, %v", n, l, err)
			}
		}
		for _, l := range [][]uint32{nil, {}, {0}, {1, 2, 3}} {
			if n, err := d.Picks(l...); n != 0 || err != api.ErrNil {
				t.Errorf("Picks(%v) answers %d, %v", l, n, err)
			}
		}
		for _, at := range []int{math.MinInt, -1, 0, 1, 8, math.MaxInt} {
			for _, most := range []int{math.MinInt, -1, 0, 1, math.MaxInt} {
				if n, err := d.Alone(at, most); n != 0 || err != api.ErrNil {
					t.Errorf("Alone(%d, %d) answers %d, %v", at, most, n, err)
				}
				if n, err := d.Turns(most); n != 0 || err != api.ErrNil {
					t.Errorf("Turns(%d) answers %d, %v", most, n, err)
				}
			}
		}
		if d.AtRest() || d.Copy() != nil || !reflect.DeepEqual(d.Outcome(), api.Outcome{}) {
			t.Error("a run that is not there tells something")
		}
	}
}

// P12.2: the events of a pick, each with its thread, for any number of threads and any pick.
func TestPick(t *testing.T) {
	draw := drawn(1)
	for threads := 1; threads <= api.MaxThreads; threads++ {
		s := chapters()
		s.Programs = nil
		for range threads {
			s.Programs = append(s.Programs, prog(adds))
		}
		d, h := made(t, s), handOf(s)
		for range 40 * threads {
			n := uint32(draw.next())
			switch draw.below(3) {
			case 0:
				n = uint32(draw.below(2 * threads))
			case 1:
				n = math.MaxUint32 - uint32(draw.below(threads))
			}
			got, err := d.Pick(n)
			if want := h.pick(n); err != api.OK || !slices.Equal(got, want) {
				t.Fatalf("Pick(%d) of %d threads answers %v, %v, not %v", n, threads, got, err, want)
			}
			stands(t, d, h)
		}
	}
}

// P12.2: which thread a number means, at the greatest ones too.
func TestChosen(t *testing.T) {
	for threads := uint32(1); threads <= api.MaxThreads; threads++ {
		s := script(1, nil, slices.Repeat([]string{"halt"}, int(threads))...)
		for _, n := range []uint32{0, 1, 2, 3, 7, 8, 9, 255, 256, 1 << 31, 1<<31 - 1, 1<<31 + 1, math.MaxUint32 - 1, math.MaxUint32} {
			l, err := made(t, s).Pick(n)
			if want := (api.Event{Thread: int(n % threads), Kind: api.Halted}); err != api.OK || !slices.Equal(l, []api.Event{want}) {
				t.Errorf("Pick(%d) of %d threads answers %v, %v", n, threads, l, err)
			}
		}
	}
}

// P12.2: a pick of a thread that is Ended or Broken is done and counts, and does nothing else.
func TestPickOfOver(t *testing.T) {
	s := script(1, []uint64{4}, "halt", "const 0 9 | load 0 0 | halt", adds)
	d := made(t, s)
	picks(t, d, 0, 1, 1)
	o := d.Outcome()
	want := []api.Event{{Thread: 0, Kind: api.Halted}, {Thread: 1, Kind: api.Failed, Err: api.ErrRange}}
	if !slices.Equal(o.Events, want) || o.Threads[0].Status != api.Ended || o.Threads[1].Status != api.Broken || o.Threads[1].Err != api.ErrRange {
		t.Fatalf("%+v", o)
	}
	for at, n := range []uint32{0, 1, 3, 4, math.MaxUint32 - math.MaxUint32%3} {
		l, err := d.Pick(n)
		if o.Steps++; len(l) != 0 || err != api.OK || !sameOutcome(d.Outcome(), o) {
			t.Errorf("pick %d answers %v, %v", at, l, err)
		}
	}
	if n := picks(t, d, 0, 1, 0, 1); n != 4 || d.Outcome().Steps != o.Steps+4 {
		t.Errorf("Picks did %d, %d in all", n, d.Outcome().Steps)
	}
	d.Alone(2, 100)
	o = d.Outcome()
	if !d.AtRest() {
		t.Fatal("not at rest")
	}
	l, err := d.Pick(2) // one at rest is done, too
	if o.Steps++; len(l) != 0 || err != api.OK || !sameOutcome(d.Outcome(), o) {
		t.Errorf("a pick at rest answers %v, %v", l, err)
	}
}

// P12.2: Picks of no pick, of some, and up to the first one ahead of which the run is at rest.
func TestPicks(t *testing.T) {
	d := made(t, chapters())
	if n := picks(t, d) + picks(t, d, []uint32{}...); n != 0 || d.Outcome().Steps != 0 {
		t.Errorf("no picks: %d were done", n)
	}
	for most := range 30 {
		d, h := made(t, chapters()), handOf(chapters())
		list := append(slices.Repeat([]uint32{0}, 10), slices.Repeat([]uint32{1}, 20)...)[:most]
		want := min(most, 20)
		for _, n := range list[:want] {
			h.pick(n)
		}
		if n := picks(t, d, list...); n != want {
			t.Errorf("Picks of %d did %d", most, n)
		}
		stands(t, d, h)
		if want == 20 && picks(t, d, 0, 1, 1) != 0 {
			t.Error("picks were done at rest")
		}
		stands(t, d, h)
	}
	draw := drawn(2)
	for range 300 {
		s := draw.script(true)
		d, h := made(t, s), handOf(s)
		for range 4 {
			list := draw.list(draw.below(120))
			before, done := slices.Clone(list), 0
			for done < len(list) && !h.resting() {
				h.pick(list[done])
				done++
			}
			if n := picks(t, d, list...); n != done || !slices.Equal(list, before) {
				t.Fatalf("Picks of %v did %d, not %d", before, n, done)
			}
			stands(t, d, h)
		}
	}
}

// P12.2: a list of events that Pick tells is the caller's own.
func TestPickMemory(t *testing.T) {
	s := chapters()
	d, h := made(t, s), handOf(s)
	for n := range uint32(60) {
		l, _ := d.Pick(n)
		h.pick(n)
		for at := range l[:cap(l)] {
			l[:cap(l)][at] = api.Event{Thread: 9, Kind: 99}
		}
		stands(t, d, h)
	}
}

// P12.3: threads that there are not, and numbers below 0: nothing is done.
func TestAloneTurnsRefused(t *testing.T) {
	for threads := 1; threads <= api.MaxThreads; threads++ {
		s := script(2, nil, slices.Repeat([]string{adds}, threads)...)
		d := made(t, s)
		picks(t, d, 0, 1, 0, 1)
		before := d.Outcome()
		for _, at := range []int{math.MinInt, -1, threads, threads + 1, 2 * threads, math.MaxInt, 1 << 32} {
			for _, most := range []int{0, 1, 100, -1, math.MaxInt} {
				if n, err := d.Alone(at, most); n != 0 || err != api.ErrArg {
					t.Errorf("Alone(%d, %d) of %d threads answers %d, %v", at, most, threads, n, err)
				}
			}
		}
		for _, most := range []int{-1, -2, math.MinInt} {
			for at := range threads {
				if n, err := d.Alone(at, most); n != 0 || err != api.ErrArg {
					t.Errorf("Alone(%d, %d) answers %d, %v", at, most, n, err)
				}
			}
			if n, err := d.Turns(most); n != 0 || err != api.ErrArg {
				t.Errorf("Turns(%d) answers %d, %v", most, n, err)
			}
		}
		for at := range threads {
			if n := alone(t, d, at, 0); n != 0 {
				t.Errorf("Alone(%d, 0) answers %d", at, n)
			}
		}
		if n := turns(t, d, 0); n != 0 || !sameOutcome(d.Outcome(), before) {
			t.Errorf("Turns(0) answers %d, or something was done", n)
		}
		d.Alone(0, 100)
		if n, err := d.Alone(0, -1); n != 0 || err != api.ErrArg { // of a thread that is over too
			t.Errorf("Alone(0, -1) of a thread that is Ended answers %d, %v", n, err)
		}
		d.Turns(1000)
		if n, err := d.Turns(-1); n != 0 || err != api.ErrArg {
			t.Errorf("Turns(-1) at rest answers %d, %v", n, err)
		}
	}
}

// P12.3: Alone of fewer and of more steps than there are; a thread that is over does none.
func TestAlone(t *testing.T) {
	for most := range 14 {
		for at := range 2 {
			d, h := made(t, chapters()), handOf(chapters())
			for range min(most, 10) {
				h.pick(uint32(at))
			}
			if n := alone(t, d, at, most); n != min(most, 10) {
				t.Errorf("Alone(%d, %d) answers %d", at, most, n)
			}
			stands(t, d, h)
		}
	}
	d := made(t, script(1, nil, "halt", "const 0 9 | load 0 0 | halt", "jump 0"))
	if a, b, c := alone(t, d, 0, math.MaxInt), alone(t, d, 1, math.MaxInt), alone(t, d, 2, 1000); a != 1 || b != 2 || c != 1000 {
		t.Errorf("%d, %d and %d were done", a, b, c)
	}
	o := d.Outcome()
	if n := alone(t, d, 0, 5) + alone(t, d, 1, 5); n != 0 || !sameOutcome(d.Outcome(), o) || o.Steps != 1003 {
		t.Errorf("threads that are over did %d", n)
	}
	if d.AtRest() {
		t.Error("it is at rest, but a thread goes on")
	}
}

// P12.3: in turn, from thread 0 on at each call; a thread that is over has its turn; up to the rest.
func TestTurns(t *testing.T) {
	d := made(t, script(1, nil, "halt", "const 0 1 | const 0 2 | halt", "const 0 1 | halt"))
	all := d.Copy()
	if n := turns(t, all, math.MaxInt); n != 8 || all.Outcome().Steps != 8 { // 0 1 2, 0 1 2, 0 1: then all are over
		t.Errorf("Turns did %d", n)
	}
	want := []api.Event{{Thread: 0, Kind: api.Halted}, {Thread: 2, Kind: api.Halted}, {Thread: 1, Kind: api.Halted}}
	if o := all.Outcome(); !slices.Equal(o.Events, want) || !all.AtRest() {
		t.Errorf("Turns: %v", o.Events)
	}
	if n := turns(t, all, 5); n != 0 || all.Outcome().Steps != 8 {
		t.Errorf("Turns at rest did %d", n)
	}
	for most := range 12 {
		c := d.Copy()
		if n := turns(t, c, most); n != min(most, 8) || c.Outcome().Steps != n {
			t.Errorf("Turns(%d) did %d", most, n)
		}
	}
	d.Turns(1)
	if o := d.Outcome(); o.Threads[0].Status != api.Ended {
		t.Errorf("the first turn is not that of thread 0: %+v", o)
	}
	if n := turns(t, d, 2); n != 2 || d.Outcome().Threads[1].At != 1 || d.Outcome().Threads[2].At != 0 { // 0 again, then 1
		t.Errorf("the next turns: %+v", d.Outcome())
	}
	if n := turns(t, made(t, script(1, nil, "jump 0", "halt")), 10001); n != 10001 {
		t.Errorf("turns of a run that does not end: %d", n)
	}
}

// P12.3: drawn scripts, Alone and Turns of any numbers, against threads that are stepped by hand.
func TestAloneTurnsDrawn(t *testing.T) {
	draw := drawn(3)
	for range 600 {
		s := draw.script(true)
		d, h := made(t, s), handOf(s)
		for range 6 {
			most, done, got := draw.below(25), 0, 0
			if draw.below(2) == 0 {
				at := draw.below(len(s.Programs))
				for ; done < most && h.runs(at); done++ {
					h.pick(uint32(at))
				}
				got = alone(t, d, at, most)
			} else {
				for ; done < most && !h.resting(); done++ {
					h.pick(uint32(done % len(s.Programs)))
				}
				got = turns(t, d, most)
			}
			if got != done {
				t.Fatalf("%d were done, not %d", got, done)
			}
			stands(t, d, h)
		}
	}
}

// P12.4: AtRest at the beginning, under way, where some are over, at rest.
func TestAtRest(t *testing.T) {
	for threads := 1; threads <= api.MaxThreads; threads++ {
		s := script(1, nil, slices.Repeat([]string{"halt"}, threads)...)
		for at := 1; at < threads; at += 2 {
			s.Programs[at] = prog("const 0 9 | begin | get 0 0 | end | halt") // it breaks
		}
		d := made(t, s)
		for n := range threads {
			if d.AtRest() {
				t.Fatalf("at rest, though %d of %d go on", threads-n, threads)
			}
			d.Alone((n+threads/2)%threads, 10) // from the midst on, so that the first and the last one are over at other times
		}
		if !d.AtRest() {
			t.Fatalf("not at rest: %+v", d.Outcome())
		}
	}
}

// P12.4: a copy stands where the run does, has its events, and goes on apart; so does the run.
func TestCopy(t *testing.T) {
	draw := drawn(4)
	for range 300 {
		s := draw.script(true)
		d, h := made(t, s), handOf(s)
		var done []uint32
		for range 5 {
			list := draw.list(draw.below(20))
			for _, n := range list {
				d.Pick(n)
				h.pick(n)
			}
			done = append(done, list...)
			c := d.Copy()
			if c == nil || c == d || c.AtRest() != d.AtRest() {
				t.Fatal("no copy")
			}
			stands(t, c, h)
			other := handOf(s)
			for _, n := range done {
				other.pick(n)
			}
			for range 1 + draw.below(20) { // the copy alone
				n := uint32(draw.next())
				got, err := c.Pick(n)
				if want := other.pick(n); err != api.OK || !slices.Equal(got, want) {
					t.Fatalf("the copy's pick answers %v, %v, not %v", got, err, want)
				}
			}
			stands(t, c, other)
			stands(t, d, h)
			apart := c.Copy()
			for _, n := range draw.list(15) { // the run alone
				d.Pick(n)
				h.pick(n)
				done = append(done, n)
			}
			alike(t, apart, c)
			stands(t, c, other)
			stands(t, d, h)
		}
	}
}

// P12.4: an outcome's lists are the caller's own, and what the run does later is not in it.
func TestOutcomeMemory(t *testing.T) {
	draw := drawn(6)
	for range 200 {
		s := draw.script(true)
		d, h := made(t, s), handOf(s)
		for range 8 {
			first, second := d.Outcome(), d.Outcome()
			c := d.Copy()
			want := kept(h.outcome())
			spoil(first)
			if !sameOutcome(second, want) || !sameOutcome(c.Outcome(), want) {
				t.Fatal("outcomes share memory")
			}
			for _, n := range draw.list(1 + draw.below(12)) {
				d.Pick(n)
				h.pick(n)
			}
			if !sameOutcome(second, want) {
				t.Fatal("an outcome goes on with its run")
			}
			stands(t, d, h)
		}
	}
}

// P12.4: to look at a run is no step of it.
func TestLooking(t *testing.T) {
	d := made(t, chapters())
	picks(t, d, 0, 0, 1)
	accesses, steps := d.row.Accesses(), d.clock.Steps()
	d.Outcome()
	d.AtRest()
	d.Copy().Turns(100)
	if d.row.Accesses() != accesses || d.clock.Steps() != steps || d.Outcome().Steps != 3 {
		t.Error("looking is a step")
	}
}
