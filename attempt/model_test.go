package attempt

import (
	"slices"
	"testing"

	"parley/api"
)

// model is an attempt as the chapter tells it, over cells and a clock of its own.
type model struct {
	s     api.Attempt
	cells []uint64
	clock uint64
	used  used
}

func (m *model) has(addr uint64) bool { return addr < uint64(len(m.cells)) }

func (m *model) own(addr uint64) int {
	return slices.IndexFunc(m.s.Writes, func(c api.Cell) bool { return c.Addr == addr })
}

func (m *model) get(addr uint64) (api.Turn, api.Errno) {
	if m.s.Phase != api.PhaseIdle {
		return api.Turn{}, api.ErrArg
	}
	if place := m.own(addr); place >= 0 {
		return own(addr, m.s.Writes[place].Word), api.OK
	}
	if !m.has(addr) {
		return api.Turn{}, api.ErrRange
	}
	if len(m.s.Reads) == api.MaxReads {
		return api.Turn{}, api.ErrFull
	}
	m.used.cells++
	m.s.Phase, m.s.Addr, m.s.Word = api.PhaseLook, addr, m.cells[addr]
	return going, api.OK
}

func (m *model) put(addr, word uint64) (api.Turn, api.Errno) {
	if m.s.Phase != api.PhaseIdle {
		return api.Turn{}, api.ErrArg
	}
	if !m.has(addr) {
		return api.Turn{}, api.ErrRange
	}
	if place := m.own(addr); place >= 0 {
		m.s.Writes[place].Word = word
		return kept(addr, word), api.OK
	}
	if len(m.s.Writes) == api.MaxWrites {
		return api.Turn{}, api.ErrFull
	}
	m.s.Writes = append(m.s.Writes, api.Cell{Addr: addr, Word: word})
	return kept(addr, word), api.OK
}

func (m *model) end() (api.Turn, api.Errno) {
	if m.s.Phase != api.PhaseIdle {
		return api.Turn{}, api.ErrArg
	}
	if len(m.s.Writes) == 0 {
		turn := committed(m.s.Snapshot / 2)
		m.s = gone
		return turn, api.OK
	}
	return m.lock(), api.OK
}

func (m *model) lock() api.Turn {
	m.used.clock++
	if m.clock == m.s.Snapshot {
		m.clock++
		m.s.Phase = api.PhaseStore
		return locked
	}
	m.s.Phase, m.s.Then = api.PhaseWait, api.PhaseLock
	return going
}

func (m *model) drop() (api.Turn, api.Errno) {
	if m.s.Phase >= api.PhaseStore {
		return api.Turn{}, api.ErrArg
	}
	m.s = gone
	return api.Turn{}, api.OK
}

func (m *model) step() (api.Turn, api.Errno) {
	switch m.s.Phase {
	case api.PhaseLoad:
		if !m.has(m.s.Addr) {
			return api.Turn{}, api.ErrRange
		}
		m.used.cells++
		m.s.Phase, m.s.Word = api.PhaseLook, m.cells[m.s.Addr]
		return going, api.OK
	case api.PhaseLook:
		m.used.clock++
		entry := api.Cell{Addr: m.s.Addr, Word: m.s.Word}
		m.s.Word = 0
		if m.clock != m.s.Snapshot {
			m.s.Phase, m.s.Then = api.PhaseWait, api.PhaseLoad
			return going, api.OK
		}
		m.s.Reads = append(m.s.Reads, entry)
		m.s.Phase, m.s.Addr = api.PhaseIdle, 0
		return read(entry.Addr, entry.Word), api.OK
	case api.PhaseWait, api.PhaseCheck, api.PhaseClose:
		return m.validate(), api.OK
	case api.PhaseLock:
		return m.lock(), api.OK
	case api.PhaseStore:
		m.used.cells++
		if entry := m.s.Writes[m.s.At]; m.has(entry.Addr) {
			m.cells[entry.Addr] = entry.Word
		}
		if m.s.At++; m.s.At == len(m.s.Writes) {
			m.s.Phase, m.s.At = api.PhaseFree, 0
		}
		return going, api.OK
	case api.PhaseFree:
		m.used.clock++
		if m.clock == m.s.Snapshot+1 {
			m.clock++
		}
		turn := committed((m.s.Snapshot + 2) / 2)
		m.s = gone
		return turn, api.OK
	}
	return api.Turn{}, api.ErrArg
}

func (m *model) validate() api.Turn {
	switch m.s.Phase {
	case api.PhaseWait:
		m.used.clock++
		if m.clock%2 == 1 {
			return going
		}
		m.s.Found = m.clock
		m.s.Phase = api.PhaseCheck
		if len(m.s.Reads) == 0 {
			m.s.Phase = api.PhaseClose
		}
	case api.PhaseCheck:
		m.used.cells++
		entry := m.s.Reads[m.s.At]
		if !m.has(entry.Addr) || m.cells[entry.Addr] != entry.Word {
			m.s = gone
			return stale
		}
		if m.s.At++; m.s.At == len(m.s.Reads) {
			m.s.Phase, m.s.At = api.PhaseClose, 0
		}
	case api.PhaseClose:
		m.used.clock++
		turn := going
		if m.clock == m.s.Found {
			turn = moved(m.clock)
			m.s.Snapshot, m.s.Phase, m.s.Then = m.clock, m.s.Then, 0
		} else {
			m.s.Phase = api.PhaseWait
		}
		m.s.Found = 0
		return turn
	}
	return going
}

// run is an attempt beside its model, with all that others do done to both.
type run struct {
	shared
	a *Attempt
	m model
	d *drawn
}

// others does something to the cells or the clock, as somebody else may.
func (r *run) others(t *testing.T) {
	switch r.d.below(4) {
	case 0:
		addr, word := uint64(r.d.below(len(r.m.cells))), uint64(r.d.below(3))
		r.row.Store(addr, word)
		r.m.cells[addr] = word
	case 1, 2:
		r.m.clock++
		r.set(t, r.m.clock)
	case 3: // a whole block of somebody's
		if r.m.clock%2 == 0 {
			r.m.clock += 2
			r.set(t, r.m.clock)
		}
	}
	r.m.used = r.used()
}

// pick is a call, drawn, of the attempt and of the model.
func (r *run) pick() (call, api.Turn, api.Errno) {
	addr, word := uint64(r.d.below(len(r.m.cells)+1)), uint64(r.d.below(3))
	n := r.d.below(40)
	if r.m.s.Phase != api.PhaseIdle && n > 3 {
		n = 39 // go on
	}
	switch {
	case n == 0:
		turn, err := r.m.drop()
		return drop, turn, err
	case n < 3:
		turn, err := r.m.end()
		return end, turn, err
	case n < 20:
		turn, err := r.m.get(addr)
		return get(addr), turn, err
	case n < 36:
		turn, err := r.m.put(addr, word)
		return put(addr, word), turn, err
	}
	turn, err := r.m.step()
	return step, turn, err
}

// once does one call, and asks for all that the chapter says of it.
func (r *run) once(t *testing.T) {
	t.Helper()
	was, cells, clock, locked := r.used(), r.row.Words(), r.word(), r.a.Locked()
	call, want, wantErr := r.pick()
	turn, err := call(r.a)
	if turn != want || err != wantErr {
		t.Fatalf("it answers %+v, %v, not %+v, %v", turn, err, want, wantErr)
	}
	stands(t, r.a, r.m.s)
	r.is(t, r.m.clock, r.m.cells...)
	made := r.used().since(was)
	if r.used() != r.m.used || made.cells+made.clock > 1 {
		t.Fatalf("it makes the accesses %v", made)
	}
	if !locked && !r.a.Locked() {
		r.is(t, clock, cells...) // P7.7: nothing is changed but under the lock
	}
}

// again begins anew.
func (r *run) again(t *testing.T) {
	t.Helper()
	if r.m.clock%2 == 1 {
		r.m.clock++
		r.set(t, r.m.clock)
	}
	r.a = r.begin(t)
	r.m.s = api.Attempt{Snapshot: r.m.clock, Phase: api.PhaseIdle}
	r.m.used = r.used()
}

// P7.1 to P7.7, from wherever drawn calls lead, with others' doings in between.
func TestDrawnCalls(t *testing.T) {
	seen := map[api.Phase]int{}
	for round := range 60 {
		d := drawn(round)
		words := make([]uint64, 1+d.below(5))
		clock := []uint64{0, 0, 6, top - 9, top - 1}[d.below(5)]
		r := &run{shared: over(t, clock, words...), d: &d}
		r.m = model{cells: words, clock: clock}
		r.again(t)
		busy := 2 + d.below(30) // how seldom others do something
		for range 1500 {
			if r.m.s.Phase == api.PhaseOver && d.below(3) > 0 {
				r.again(t)
			}
			if d.below(busy) == 0 {
				r.others(t)
			}
			r.once(t)
			if d.below(20) == 0 { // P7.6, P7.7: it goes on from its state, and in a copy, as itself
				if d.below(2) == 0 {
					r.a = r.from(t, r.a.State())
				} else {
					r.a = r.a.Copy(r.row, r.clock)
				}
				stands(t, r.a, r.m.s)
			}
			seen[r.m.s.Phase]++
		}
	}
	for phase := api.PhaseIdle; phase <= api.PhaseOver; phase++ {
		if seen[phase] < 100 {
			t.Errorf("the phase %d was seen %d times: the draw is no test of it", phase, seen[phase])
		}
	}
}

// P7.7: alone an attempt is never stale, and takes just so many steps.
func TestAlone(t *testing.T) {
	for round := range 200 {
		d := drawn(round)
		s := over(t, uint64(d.below(9))*2, make([]uint64, 8)...)
		now := make([]uint64, 8)
		for range 5 {
			clock := s.word()
			a := s.begin(t)
			mine := map[uint64]uint64{}
			for range d.below(40) {
				addr := uint64(d.below(9))
				if d.below(2) == 0 {
					word := d.next()
					if _, err := a.Put(addr, word); err == api.OK {
						mine[addr] = word
					}
					continue
				}
				aloneGet(t, s, a, addr, now, mine)
			}
			steps := aloneEnd(t, a, len(mine))
			for addr, word := range mine {
				now[addr] = word
			}
			if len(mine) > 0 {
				clock += 2
			}
			s.is(t, clock, now...)
			want := 1
			if len(mine) > 0 {
				want = len(mine) + 2
			}
			if steps != want {
				t.Fatalf("%d words are committed in %d steps", len(mine), steps)
			}
		}
	}
}

// aloneGet does a get to its end: one step out of the redo log, else two.
func aloneGet(t *testing.T, s shared, a *Attempt, addr uint64, now []uint64, mine map[uint64]uint64) {
	t.Helper()
	was := s.used()
	turn, err := a.Get(addr)
	if word, has := mine[addr]; has {
		if turn != own(addr, word) || err != api.OK || s.used() != was {
			t.Fatalf("Get of an own word answers %v, %v", turn, err)
		}
		return
	}
	if addr >= uint64(len(now)) {
		errno(t, "Get of no cell", err, api.ErrRange)
		return
	}
	if turn != going || err != api.OK {
		t.Fatalf("Get answers %v, %v", turn, err)
	}
	turn, err = a.Step()
	if turn != read(addr, now[addr]) || err != api.OK {
		t.Fatalf("Get's second step answers %v, %v", turn, err)
	}
	if made := s.used().since(was); made != (used{1, 1}) {
		t.Fatalf("a get makes the accesses %v", made)
	}
}

// aloneEnd commits, and tells in how many steps.
func aloneEnd(t *testing.T, a *Attempt, words int) int {
	t.Helper()
	turn, err := a.End()
	steps := 1
	for ; err == api.OK && turn.Out == api.OutGoing && steps < words+9; steps++ {
		turn, err = a.Step()
	}
	if turn.Out != api.OutCommitted || err != api.OK || a.Phase() != api.PhaseOver {
		t.Fatalf("behind %d steps: %v, %v", steps, turn, err)
	}
	return steps
}

// P7.2, P7.7: logs filled by calls.
func TestFullLogs(t *testing.T) {
	s := over(t, 0, make([]uint64, 2000)...)
	a := s.begin(t)
	for addr := range uint64(api.MaxReads) {
		if turn, err := a.Get(addr); turn != going || err != api.OK {
			t.Fatalf("Get(%d) answers %v, %v", addr, turn, err)
		}
		if turn, err := a.Step(); turn != read(addr, 0) || err != api.OK {
			t.Fatalf("Get(%d) ends with %v, %v", addr, turn, err)
		}
	}
	for addr := range uint64(api.MaxWrites) {
		if turn, err := a.Put(addr, addr+1); turn != kept(addr, addr+1) || err != api.OK {
			t.Fatalf("Put(%d) answers %v, %v", addr, turn, err)
		}
	}
	was := s.used()
	_, err := a.Get(1024)
	errno(t, "Get of a full log", err, api.ErrFull)
	_, err = a.Put(1024, 1)
	errno(t, "Put of a full log", err, api.ErrFull)
	_, err = a.Get(2000)
	errno(t, "Get of no cell", err, api.ErrRange)
	_, err = a.Put(2000, 1)
	errno(t, "Put of no cell", err, api.ErrRange)
	if turn, err := a.Put(0, 77); turn != kept(0, 77) || err != api.OK {
		t.Errorf("Put of an own address answers %v, %v", turn, err)
	}
	if turn, err := a.Get(0); turn != own(0, 77) || err != api.OK {
		t.Errorf("Get of an own address answers %v, %v", turn, err)
	}
	if s.used() != was {
		t.Errorf("that makes the accesses %v", s.used().since(was))
	}
	if steps := aloneEnd(t, a, api.MaxWrites); steps != api.MaxWrites+2 {
		t.Errorf("it commits in %d steps", steps)
	}
	if w, _ := s.row.Load(1023); w != 1024 {
		t.Errorf("the last cell is %d", w)
	}
}

// block is one of several that go on by turns: each adds 1 to both cells, and asks that they were the same.
type block struct {
	a    *Attempt
	left int
	at   int
	got  [2]uint64
}

// turn does one step of a block's attempt.
func (b *block) turn(t *testing.T, s shared) {
	t.Helper()
	if b.a == nil {
		b.a, _, _ = Begin(s.row, s.clock)
		b.at = 0
		return
	}
	var turn api.Turn
	var err api.Errno
	switch {
	case b.a.Phase() != api.PhaseIdle:
		turn, err = b.a.Step()
	case b.at < 2:
		turn, err = b.a.Get(uint64(b.at))
	case b.at < 4:
		turn, err = b.a.Put(uint64(b.at-2), b.got[b.at-2]+1)
	default:
		turn, err = b.a.End()
	}
	errno(t, "a step", err, api.OK)
	switch turn.Out {
	case api.OutGot:
		b.got[b.at] = turn.Word
		if b.at++; b.at == 2 && b.got[0] != b.got[1] {
			t.Fatalf("an attempt has read %v, which never stood together", b.got)
		}
	case api.OutKept:
		b.at++
	case api.OutStale:
		b.a = nil
	case api.OutCommitted:
		b.a = nil
		b.left--
		if turn.Event.Word != b.got[0]+1 {
			t.Fatalf("the number is %d behind %d", turn.Event.Word, b.got[0])
		}
	}
}

// P7.4, P7.7: several attempts over one row and one clock.
func TestSeveral(t *testing.T) {
	for round := range 100 {
		d := drawn(round)
		s := over(t, 0, 0, 0)
		var blocks []*block
		all := 0
		for range 1 + d.below(4) {
			left := 1 + d.below(6)
			all += left
			blocks = append(blocks, &block{left: left})
		}
		for range 20000 { // far more than it takes
			b := blocks[d.below(len(blocks))]
			for steps := 1 + d.below(9); steps > 0 && b.left > 0; steps-- {
				b.turn(t, s)
			}
		}
		s.is(t, uint64(2*all), uint64(all), uint64(all))
	}
}
