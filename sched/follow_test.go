package sched

import (
	"math"
	"slices"
	"testing"

	"parley/api"
	"parley/check"
)

// P12.5: picks of one list and then of another one make what picks of both make.
func TestListsJoined(t *testing.T) {
	draw := drawn(11)
	for range 500 {
		s := draw.script(true)
		list := draw.list(draw.below(200))
		cut := draw.below(len(list) + 1)
		a, b := made(t, s), made(t, s)
		if n, m := picks(t, a, list...), picks(t, b, list[:cut]...)+picks(t, b, list[cut:]...); n != m {
			t.Fatalf("at once %d are done, in two %d", n, m)
		}
		alike(t, a, b)
		c := made(t, s)
		for _, n := range list {
			picks(t, c, n)
		}
		alike(t, a, c)
	}
}

// P12.5: Alone and Turns make what Picks of the same threads make.
func TestAloneTurnsAsPicks(t *testing.T) {
	draw := drawn(12)
	for range 500 {
		s := draw.script(true)
		a, b := made(t, s), made(t, s)
		for range 5 {
			most, at := draw.below(30), draw.below(len(s.Programs))
			var list []uint32
			var done int
			if draw.below(2) == 0 {
				done = alone(t, a, at, most)
				list = slices.Repeat([]uint32{uint32(at)}, done)
			} else {
				done = turns(t, a, most)
				for n := range done {
					list = append(list, uint32(n))
				}
			}
			if n := picks(t, b, list...); n != done {
				t.Fatalf("Picks did %d of %d", n, done)
			}
			alike(t, a, b)
		}
	}
}

// P12.5: picks that are the same modulo the number of threads do the same, up to the greatest numbers.
func TestModulo(t *testing.T) {
	draw := drawn(13)
	for threads := uint32(1); threads <= api.MaxThreads; threads++ {
		s := script(2, nil, slices.Repeat([]string{adds}, int(threads))...)
		for range 40 {
			a, b := made(t, s), made(t, s)
			for range 60 {
				n := uint32(draw.below(int(threads)))
				m := n + threads*uint32(draw.below(int((math.MaxUint32-n)/threads)+1))
				x, _ := a.Pick(n)
				y, _ := b.Pick(m)
				if !slices.Equal(x, y) {
					t.Fatalf("of %d threads the picks %d and %d tell %v and %v", threads, n, m, x, y)
				}
			}
			alike(t, a, b)
			c := made(t, s)
			s.Picks = draw.list(80)
			o, _ := Run(s)
			for n := range s.Picks {
				c.Pick(s.Picks[n] % threads)
			}
			if !sameOutcome(o, c.Outcome()) {
				t.Fatal("Run does its picks otherwise")
			}
		}
	}
}

// isLocked tells whether an attempt has taken the lock, and is not over.
func isLocked(th api.Thread) bool {
	return th.Inside && (th.Attempt.Phase == api.PhaseStore || th.Attempt.Phase == api.PhaseFree)
}

// P12.5: the clock against the commits of attempts that wrote, at each step.
func TestClock(t *testing.T) {
	draw := drawn(14)
	commits := 0
	for range 400 {
		s := draw.script(draw.below(2) == 0)
		d := made(t, s)
		wrote := make([]bool, len(s.Programs))
		written := uint64(0)
		for range 150 {
			l, _ := d.Pick(uint32(draw.next()))
			for _, e := range l {
				switch e.Kind {
				case api.Begin:
					wrote[e.Thread] = false
				case api.Write:
					wrote[e.Thread] = true
				case api.Committed:
					if wrote[e.Thread] {
						if written++; e.Word != written {
							t.Fatalf("commit %d has the number %d", written, e.Word)
						}
						commits++
					}
				}
			}
			o := d.Outcome()
			want, held := 2*written, 0
			for _, th := range o.Threads {
				if isLocked(th) {
					want++
					held++
				}
			}
			if o.Clock != want || held > 1 {
				t.Fatalf("behind %d commits, with %d locks held, the clock is %d", written, held, o.Clock)
			}
		}
	}
	if commits < 1000 {
		t.Errorf("%d commits alone", commits)
	}
}

// P12.5: a thread that goes on alone from an even clock comes to its end, and is stale at most where its attempt was begun ahead of that.
func TestGoesOnAlone(t *testing.T) {
	draw := drawn(15)
	stales, free := 0, 0
	for range 3000 {
		s := draw.script(false)
		d := made(t, s)
		for _, n := range draw.list(draw.below(80)) {
			d.Pick(n)
		}
		before := d.Outcome()
		if before.Clock%2 == 1 {
			for at, th := range before.Threads {
				if isLocked(th) {
					for isLocked(d.Outcome().Threads[at]) {
						d.Alone(at, 1)
					}
				}
			}
			before = d.Outcome()
		}
		at := draw.below(len(s.Programs))
		done := alone(t, d, at, 2000)
		o := d.Outcome()
		inside := before.Threads[at].Inside
		for _, e := range o.Events[len(before.Events):] {
			if e.Thread != at {
				t.Fatalf("another thread did a step: %v", e)
			}
			if e.Kind == api.Stale {
				if !inside {
					t.Fatalf("thread %d is stale, though it went on alone", at)
				}
				stales++
			}
			if e.Kind == api.Begin || e.Kind == api.Stale {
				inside = false
			}
		}
		if !loops(s.Programs[at]) {
			if free++; done >= 2000 || o.Threads[at].Status == api.Running {
				t.Fatalf("thread %d does not end alone: %+v", at, o.Threads[at])
			}
		}
	}
	if stales < 10 || free < 500 {
		t.Errorf("stale %d times, %d that end", stales, free)
	}
}

// loops tells whether a program leads back anywhere.
func loops(p []api.Instr) bool {
	for at := range p {
		l, _ := check.Followers(p, at)
		for _, n := range l {
			if n <= at {
				return true
			}
		}
	}
	return false
}

// P12.6: at each pick at most one cell or the clock changes, never both, and of the threads its own alone.
func TestOneChange(t *testing.T) {
	draw := drawn(16)
	cellsChanged, clockChanged := 0, 0
	for range 500 {
		s := draw.script(true)
		d := made(t, s)
		o := d.Outcome()
		for range 120 {
			n := uint32(draw.next())
			l, _ := d.Pick(n)
			at := int(n % uint32(len(s.Programs)))
			next := d.Outcome()
			changed := 0
			for a, w := range next.Cells {
				if w != o.Cells[a] {
					changed++
					cellsChanged++
				}
			}
			if next.Clock != o.Clock {
				changed++
				clockChanged++
			}
			if changed > 1 {
				t.Fatalf("a pick changes %d things", changed)
			}
			for k := range next.Threads {
				if k != at && !sameThread(next.Threads[k], o.Threads[k]) {
					t.Fatalf("the pick %d changes thread %d", n, k)
				}
			}
			if next.Steps != o.Steps+1 || !slices.Equal(next.Events, append(slices.Clone(o.Events), l...)) || len(l) > 1 {
				t.Fatalf("the pick %d: %d steps, events %v behind %v", n, next.Steps, l, o.Events)
			}
			for _, e := range l {
				if e.Thread != at {
					t.Fatalf("the pick %d tells an event of thread %d", n, e.Thread)
				}
			}
			o = next
		}
	}
	if cellsChanged < 300 || clockChanged < 1000 {
		t.Errorf("%d cells and %d clocks changed alone", cellsChanged, clockChanged)
	}
}
