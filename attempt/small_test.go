package attempt

import (
	"slices"
	"testing"

	"parley/api"
)

// may is 'A state may be', sentence by sentence.
func may(s api.Attempt) bool {
	if s.Phase < api.PhaseIdle || s.Phase > api.PhaseOver {
		return false
	}
	is := names(s)
	if !is["Then"] && s.Then != 0 || !is["Addr"] && s.Addr != 0 || !is["Word"] && s.Word != 0 || !is["Found"] && s.Found != 0 || !is["At"] && s.At != 0 {
		return false
	}
	if is["Then"] && s.Then != api.PhaseLoad && s.Then != api.PhaseLock {
		return false
	}
	if s.Phase == api.PhaseOver && (s.Snapshot != 0 || len(s.Reads) > 0 || len(s.Writes) > 0) {
		return false
	}
	if s.Snapshot%2 != 0 || s.Found%2 != 0 || len(s.Reads) > api.MaxReads || len(s.Writes) > api.MaxWrites {
		return false
	}
	for at, entry := range s.Writes {
		for _, other := range s.Writes[:at] {
			if entry.Addr == other.Addr {
				return false
			}
		}
		if is["Addr"] && entry.Addr == s.Addr {
			return false
		}
	}
	if s.Phase == api.PhaseCheck && (s.At < 0 || s.At >= len(s.Reads)) || s.Phase == api.PhaseStore && (s.At < 0 || s.At >= len(s.Writes)) {
		return false
	}
	writing := s.Phase == api.PhaseLock || s.Phase == api.PhaseStore || s.Phase == api.PhaseFree || s.Then == api.PhaseLock
	return !(writing && len(s.Writes) == 0) && !(is["Addr"] && len(s.Reads) == api.MaxReads)
}

// small tells all states of small parts, whether they may be or not.
func small(yield func(api.Attempt) bool) {
	logs := [][2][]api.Cell{
		{nil, nil},
		{entries(0, 5), nil},
		{entries(1, 6, 0, 9), entries(1, 1)},
		{entries(3, 0), entries(0, 1, 3, 2)},
		{nil, entries(1, 1, 0, 2, 1, 3)},
	}
	for n := range 5 * 12 * 3 * 5 * 3 * 2 * 3 * 4 {
		digit := func(base int) int {
			d := n % base
			n /= base
			return d
		}
		pair := logs[digit(5)]
		s := api.Attempt{
			Reads:    pair[0],
			Writes:   pair[1],
			Phase:    api.Phase(digit(12)),
			Snapshot: uint64(digit(3)),
			Then:     []api.Phase{0, api.PhaseIdle, api.PhaseLoad, api.PhaseLook, api.PhaseLock}[digit(5)],
			Addr:     []uint64{0, 1, 3}[digit(3)],
			Word:     []uint64{0, 5}[digit(2)],
			Found:    uint64(digit(3)),
			At:       digit(4) - 1,
		}
		if !yield(s) {
			return
		}
	}
}

// P7.1 to P7.7: each call from each of the states that may be, at clocks that are open, held, or others.
func TestSmallStates(t *testing.T) {
	was := over(t, 0, 5, 6)
	those := map[api.Phase]int{}
	for state := range small {
		a, err := From(state, was.row, was.clock)
		if !may(state) {
			if a != nil || err != api.ErrArg {
				t.Fatalf("From(%+v) answers %v, %v", state, a, err)
			}
			continue
		}
		if a == nil || err != api.OK {
			t.Fatalf("From(%+v) answers %v, %v", state, a, err)
		}
		those[state.Phase]++
		for clock := range uint64(4) {
			smallCalls(t, state, clock)
		}
	}
	if len(those) != int(api.PhaseOver) {
		t.Errorf("there are no states that may be but of %v", those)
	}
	if was.used() != (used{}) {
		t.Errorf("From makes the accesses %v", was.used())
	}
}

// smallCalls makes each call from a state, and asks that it is as of the model.
func smallCalls(t *testing.T, state api.Attempt, clock uint64) {
	t.Helper()
	for _, k := range []struct {
		name  string
		call  call
		model func(*model) (api.Turn, api.Errno)
	}{
		{"Get(0)", get(0), func(m *model) (api.Turn, api.Errno) { return m.get(0) }},
		{"Get(1)", get(1), func(m *model) (api.Turn, api.Errno) { return m.get(1) }},
		{"Get(3)", get(3), func(m *model) (api.Turn, api.Errno) { return m.get(3) }},
		{"Put(1, 7)", put(1, 7), func(m *model) (api.Turn, api.Errno) { return m.put(1, 7) }},
		{"Put(3, 7)", put(3, 7), func(m *model) (api.Turn, api.Errno) { return m.put(3, 7) }},
		{"End", end, (*model).end},
		{"Step", step, (*model).step},
		{"Drop", drop, (*model).drop},
	} {
		s := over(t, clock, 5, 6)
		a := s.from(t, state)
		m := model{s: state, cells: []uint64{5, 6}, clock: clock}
		m.s.Reads, m.s.Writes = slices.Clone(state.Reads), slices.Clone(state.Writes)
		turn, err := k.call(a)
		want, wantErr := k.model(&m)
		if turn != want || err != wantErr || !alike(a.State(), m.s) || s.used() != m.used || !may(a.State()) {
			t.Fatalf("%s of %+v at %d answers %+v, %v and leads to %+v", k.name, state, clock, turn, err, a.State())
		}
		s.is(t, m.clock, m.cells...)
	}
}
