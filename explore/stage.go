package explore

import (
	"slices"

	"parley/api"
	"parley/cells"
	"parley/seq"
	"parley/thread"
)

// stage is what steps are done on, and what was done there.
type stage struct {
	programs [][]api.Instr
	rows     rows
	stands   stands
	cells    *cells.Row // a row of the lower layers, for threads to go over
	shown    *row       // whose words stand in it
	played   map[scene]scene
}

// scene is all that the step of a thread hangs on, and all that it changes.
type scene struct {
	thread int
	stand  *stand
	cells  *row
	clock  uint64
}

// newStage is a stage for a script that may be.
func newStage(s api.Script) *stage {
	row, _ := cells.New(s.Cells)
	return &stage{programs: s.Programs, rows: newRows(), stands: newStands(), cells: row, played: map[scene]scene{}}
}

// open is the state at the beginning, as layer 12 tells it.
func (g *stage) open(o api.Outcome) state {
	g.cells.Fill(0, o.Cells...)
	g.shown = g.rows.of(o.Cells)
	s := state{cells: g.shown, clock: o.Clock}
	for n, t := range o.Threads {
		s.threads[n] = g.stands.put(t)
	}
	return s
}

// step is the state behind a step of a thread. Where several threads go on by turns each comes to one scene many times, so that what it does there is kept.
func (g *stage) step(s state, n int) state {
	c := scene{n, s.threads[n], s.cells, s.clock}
	behind, has := g.played[c]
	if !has {
		behind = g.play(c)
		g.played[c] = behind
	}
	s.threads[n], s.cells, s.clock = behind.stand, behind.cells, behind.clock
	return s
}

// play does a step; the scene behind it.
func (g *stage) play(c scene) scene {
	g.show(c.cells)
	was, clock := &c.stand.Thread, seq.From(c.clock)
	t, _ := thread.From(*was, g.programs[c.thread], g.cells, clock) // where a thread has come to, one may stand
	e, _, _ := t.Step()
	if addr, has := stored(was, e); has {
		word, _ := g.cells.Load(addr)
		c.cells = g.rows.with(c.cells, int(addr), word)
		g.shown = c.cells
	}
	c.clock, _ = clock.Load()
	c.stand = g.stands.put(lean(t.State(), was))
	return c
}

// show lets the words of a row stand in the cells.
func (g *stage) show(r *row) {
	for addr, word := range g.shown.apart(r) {
		g.cells.Store(uint64(addr), word)
	}
	g.shown = r
}

// stored is the cell into which a step has stored, if it has: what a plain store tells, or the entry at which a commit was.
func stored(was *api.Thread, e api.Event) (uint64, bool) {
	if e.Kind == api.Stored {
		return e.Addr, true
	}
	if a := &was.Attempt; a.Phase == api.PhaseStore {
		return a.Writes[a.At].Addr, true
	}
	return 0, false
}

// lean is a thread that has the logs in common with what it was a step ago, if they are the same: mostly they are, and they may be long.
func lean(t api.Thread, was *api.Thread) api.Thread {
	if slices.Equal(t.Attempt.Reads, was.Attempt.Reads) {
		t.Attempt.Reads = was.Attempt.Reads
	}
	if slices.Equal(t.Attempt.Writes, was.Attempt.Writes) {
		t.Attempt.Writes = was.Attempt.Writes
	}
	return t
}
