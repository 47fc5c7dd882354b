package attempt

import (
	"math"
	"reflect"
	"slices"
	"testing"

	"parley/api"
	"parley/cells"
	"parley/seq"
)

const top = math.MaxUint64

// drawn is a row of numbers that looks drawn, and is the same each time.
type drawn uint64

func (d *drawn) next() uint64 {
	*d = *d*6364136223846793005 + 1442695040888963407
	return uint64(*d >> 33)
}

// below is a number from 0 to n - 1.
func (d *drawn) below(n int) int { return int(d.next() % uint64(n)) }

// errno asks for an error.
func errno(t *testing.T, what string, got, want api.Errno) {
	t.Helper()
	if got != want {
		t.Fatalf("%s answers %v, not %v", what, got, want)
	}
}

// shared is what an attempt goes over.
type shared struct {
	row   *cells.Row
	clock *seq.Clock
}

// over makes cells with these words, and a clock.
func over(t *testing.T, clock uint64, words ...uint64) shared {
	t.Helper()
	row, err := cells.Of(words...)
	errno(t, "Of", err, api.OK)
	return shared{row, seq.From(clock)}
}

// word is the clock's word, without a step of the clock.
func (s shared) word() uint64 {
	word, _ := s.clock.Copy().Load()
	return word
}

// is asks for the clock's word and the cells.
func (s shared) is(t *testing.T, clock uint64, words ...uint64) {
	t.Helper()
	if s.word() != clock || !slices.Equal(s.row.Words(), words) {
		t.Fatalf("the clock is %d, the cells are %v, not %d, %v", s.word(), s.row.Words(), clock, words)
	}
}

// used is how many accesses to the cells and steps of the clock there were.
func (s shared) used() used { return used{int(s.row.Accesses()), s.clock.Steps()} }

// set is others' doing: the clock goes on to that word, by Takes and Leaves.
func (s shared) set(t *testing.T, word uint64) {
	t.Helper()
	for s.word() != word {
		now := s.word()
		if seq.Open(now) {
			s.clock.Take(now)
		} else {
			errno(t, "Leave", s.clock.Leave(now-1), api.OK)
		}
	}
}

type used struct{ cells, clock int }

func (u used) since(was used) used { return used{u.cells - was.cells, u.clock - was.clock} }

// begin makes an attempt by Begin.
func (s shared) begin(t *testing.T) *Attempt {
	t.Helper()
	a, turn, err := Begin(s.row, s.clock)
	if a == nil || turn.Out != api.OutBegun || err != api.OK {
		t.Fatalf("Begin answers %v, %v, %v", a, turn, err)
	}
	return a
}

// from makes an attempt by From.
func (s shared) from(t *testing.T, state api.Attempt) *Attempt {
	t.Helper()
	a, err := From(state, s.row, s.clock)
	if a == nil || err != api.OK {
		t.Fatalf("From(%v) answers %v, %v", state, a, err)
	}
	return a
}

// alike tells whether two states are the same, no list being as an empty one.
func alike(s, z api.Attempt) bool {
	if !slices.Equal(s.Reads, z.Reads) || !slices.Equal(s.Writes, z.Writes) {
		return false
	}
	s.Reads, s.Writes, z.Reads, z.Writes = nil, nil, nil, nil
	return reflect.DeepEqual(s, z)
}

// stands asks where an attempt stands, by State, Phase and Locked.
func stands(t *testing.T, a *Attempt, want api.Attempt) {
	t.Helper()
	if got := a.State(); !alike(got, want) {
		t.Fatalf("the state is %+v, not %+v", got, want)
	}
	if a.Phase() != want.Phase {
		t.Fatalf("Phase is %d, not %d", a.Phase(), want.Phase)
	}
	locked := want.Phase == api.PhaseStore || want.Phase == api.PhaseFree
	if a.Locked() != locked {
		t.Fatalf("Locked in the phase %d is %v", want.Phase, a.Locked())
	}
}

// entries makes entries of addresses and words by turns.
func entries(pairs ...uint64) []api.Cell {
	var list []api.Cell
	for pair := range slices.Chunk(pairs, 2) {
		list = append(list, api.Cell{Addr: pair[0], Word: pair[1]})
	}
	return list
}

// many makes so many entries with addresses of their own, from 0 on.
func many(n int) []api.Cell {
	list := make([]api.Cell, n)
	for at := range list {
		list[at] = api.Cell{Addr: uint64(at), Word: uint64(at) * 3}
	}
	return list
}

// call is one of an attempt's steps.
type call func(*Attempt) (api.Turn, api.Errno)

func step(a *Attempt) (api.Turn, api.Errno) { return a.Step() }
func end(a *Attempt) (api.Turn, api.Errno)  { return a.End() }
func get(addr uint64) call {
	return func(a *Attempt) (api.Turn, api.Errno) { return a.Get(addr) }
}
func put(addr, word uint64) call {
	return func(a *Attempt) (api.Turn, api.Errno) { return a.Put(addr, word) }
}
func drop(a *Attempt) (api.Turn, api.Errno) { return api.Turn{}, a.Drop() }

// Turns.
var (
	going  = api.Turn{Out: api.OutGoing}
	locked = api.Turn{Out: api.OutGoing, Event: api.Event{Kind: api.Locked}}
	stale  = api.Turn{Out: api.OutStale, Event: api.Event{Kind: api.Stale}}
	gone   = api.Attempt{Phase: api.PhaseOver}
)

func moved(word uint64) api.Turn {
	return api.Turn{Out: api.OutGoing, Event: api.Event{Kind: api.Moved, Word: word}}
}
func committed(number uint64) api.Turn {
	return api.Turn{Out: api.OutCommitted, Event: api.Event{Kind: api.Committed, Word: number}}
}
func read(addr, word uint64) api.Turn {
	return api.Turn{Out: api.OutGot, Word: word, Event: api.Event{Kind: api.Read, Addr: addr, Word: word}}
}
func own(addr, word uint64) api.Turn {
	turn := read(addr, word)
	turn.Event.Own = true
	return turn
}
func kept(addr, word uint64) api.Turn {
	return api.Turn{Out: api.OutKept, Event: api.Event{Kind: api.Write, Addr: addr, Word: word}}
}

// scene is one call from one state on, over the cells 5 6 7, if no others are named.
type scene struct {
	name  string
	state api.Attempt
	words []uint64
	clock uint64
	call  call

	turn   api.Turn
	err    api.Errno
	behind api.Attempt
	stored []uint64 // the cells behind it, if they are others
	set    uint64   // how far the clock has gone
	used   used
}

func (k scene) play(t *testing.T) {
	words := k.words
	if words == nil {
		words = []uint64{5, 6, 7}
	}
	s := over(t, k.clock, words...)
	a := s.from(t, k.state)
	turn, err := k.call(a)
	if turn != k.turn || err != k.err {
		t.Fatalf("it answers %+v, %v, not %+v, %v", turn, err, k.turn, k.err)
	}
	if got := s.used(); got != k.used {
		t.Fatalf("it makes the accesses %v, not %v", got, k.used)
	}
	if k.err != api.OK {
		k.behind = k.state
	}
	if k.stored != nil {
		words = k.stored
	}
	stands(t, a, k.behind)
	s.is(t, k.clock+k.set, words...)
	// P7.7: what it has come to may be.
	stands(t, s.from(t, a.State()), k.behind)
}

// play plays scenes; of those that name no call it is this one.
func play(t *testing.T, scenes []scene, call call) {
	for _, k := range scenes {
		if k.call == nil {
			k.call = call
		}
		t.Run(k.name, k.play)
	}
}

// with is a state with a change.
func with(s api.Attempt, change func(*api.Attempt)) api.Attempt {
	change(&s)
	return s
}

// P7.1
func TestBegin(t *testing.T) {
	for _, clock := range []uint64{0, 2, 4, 1 << 32, 1 << 63, top - 1} {
		s := over(t, clock, 5, 6, 7)
		a, turn, err := Begin(s.row, s.clock)
		want := api.Turn{Out: api.OutBegun, Event: api.Event{Kind: api.Begin, Word: clock}}
		if a == nil || turn != want || err != api.OK {
			t.Fatalf("at %d Begin answers %v, %+v, %v", clock, a, turn, err)
		}
		if got := s.used(); got != (used{0, 1}) {
			t.Errorf("Begin makes the accesses %v", got)
		}
		stands(t, a, api.Attempt{Snapshot: clock, Phase: api.PhaseIdle})
		s.is(t, clock, 5, 6, 7)
	}
	for _, clock := range []uint64{1, 3, 7, 1<<32 + 1, 1<<63 + 1, top} {
		s := over(t, clock, 5, 6, 7)
		a, turn, err := Begin(s.row, s.clock)
		if a != nil || turn != (api.Turn{Out: api.OutOdd}) || err != api.OK {
			t.Fatalf("at %d Begin answers %v, %+v, %v", clock, a, turn, err)
		}
		if got := s.used(); got != (used{0, 1}) {
			t.Errorf("Begin at an odd clock makes the accesses %v", got)
		}
		s.is(t, clock, 5, 6, 7)
	}
}

// P7.1, P7.6
func TestRowOrClockNotThere(t *testing.T) {
	refused, _ := cells.New(0)
	for _, k := range []struct {
		name string
		shared
	}{
		{"no row", shared{nil, seq.New()}},
		{"no clock", shared{over(t, 0, 5).row, nil}},
		{"neither", shared{}},
		{"a zero row", shared{&cells.Row{}, seq.New()}},
		{"a row that was refused", shared{refused, seq.New()}},
		{"a zero clock", shared{over(t, 0, 5).row, &seq.Clock{}}},
		{"zero both", shared{&cells.Row{}, &seq.Clock{}}},
	} {
		t.Run(k.name, func(t *testing.T) {
			if a, turn, err := Begin(k.row, k.clock); a != nil || turn != (api.Turn{}) || err != api.ErrNil {
				t.Errorf("Begin answers %v, %v, %v", a, turn, err)
			}
			// Ahead of ErrArg, too.
			for _, state := range []api.Attempt{{Phase: api.PhaseIdle}, {}, gone, {Phase: api.PhaseLock}} {
				if a, err := From(state, k.row, k.clock); a != nil || err != api.ErrNil {
					t.Errorf("From(%v) answers %v, %v", state, a, err)
				}
			}
			a := over(t, 0, 5).begin(t)
			if c := a.Copy(k.row, k.clock); c != nil {
				t.Errorf("Copy is %v", c)
			}
			a.Drop()
			if c := a.Copy(k.row, k.clock); c != nil {
				t.Errorf("Copy of what is over is %v", c)
			}
			if k.used() != (used{}) {
				t.Errorf("there were the accesses %v", k.used())
			}
		})
	}
}

// states is one state of each phase, of a validation one for each aim, all of them with entries in both logs.
func states() map[string]api.Attempt {
	in := func(phase api.Phase, change func(*api.Attempt)) api.Attempt {
		s := api.Attempt{Snapshot: 4, Reads: entries(0, 5, 2, 7, 0, 5), Writes: entries(2, 8, 0, 9), Phase: phase}
		change(&s)
		return s
	}
	aim := func(s *api.Attempt, then api.Phase) {
		s.Then = then
		if then == api.PhaseLoad {
			s.Addr = 1
		}
	}
	all := map[string]api.Attempt{
		"idle":  in(api.PhaseIdle, func(s *api.Attempt) {}),
		"load":  in(api.PhaseLoad, func(s *api.Attempt) { s.Addr = 1 }),
		"look":  in(api.PhaseLook, func(s *api.Attempt) { s.Addr, s.Word = 1, 6 }),
		"lock":  in(api.PhaseLock, func(s *api.Attempt) {}),
		"store": in(api.PhaseStore, func(s *api.Attempt) { s.At = 1 }),
		"free":  in(api.PhaseFree, func(s *api.Attempt) {}),
		"over":  gone,
	}
	for name, then := range map[string]api.Phase{" for a load": api.PhaseLoad, " for the lock": api.PhaseLock} {
		all["wait"+name] = in(api.PhaseWait, func(s *api.Attempt) { aim(s, then) })
		all["check"+name] = in(api.PhaseCheck, func(s *api.Attempt) { aim(s, then); s.Found, s.At = 6, 2 })
		all["close"+name] = in(api.PhaseClose, func(s *api.Attempt) { aim(s, then); s.Found = 6 })
	}
	return all
}

// asked makes an attempt of a state, and asks that From has made no access, and that it keeps nothing.
func asked(t *testing.T, state api.Attempt) {
	t.Helper()
	s := over(t, 4, 5, 6, 7)
	state.Reads, state.Writes = slices.Clone(state.Reads), slices.Clone(state.Writes)
	a := s.from(t, state)
	stands(t, a, state)
	if s.used() != (used{}) {
		t.Fatalf("From makes the accesses %v", s.used())
	}
	s.is(t, 4, 5, 6, 7)
	want := state
	want.Reads, want.Writes = slices.Clone(state.Reads), slices.Clone(state.Writes)
	for at := range state.Reads {
		state.Reads[at] = api.Cell{Addr: 77, Word: 77}
	}
	for at := range state.Writes {
		state.Writes[at] = api.Cell{Addr: 77, Word: 77}
	}
	stands(t, a, want)
}

// mayNot asks that From refuses a state.
func mayNot(t *testing.T, what string, state api.Attempt) {
	t.Helper()
	s := over(t, 4, 5, 6, 7)
	if a, err := From(state, s.row, s.clock); a != nil || err != api.ErrArg {
		t.Errorf("%s: From answers %v, %v", what, a, err)
	}
	if s.used() != (used{}) {
		t.Errorf("%s: From makes the accesses %v", what, s.used())
	}
}

// P7.1
func TestFrom(t *testing.T) {
	for name, state := range states() {
		t.Run(name, func(t *testing.T) { asked(t, state) })
	}
	for name, state := range map[string]api.Attempt{
		"idle, no entries":           {Phase: api.PhaseIdle},
		"idle, empty lists":          {Phase: api.PhaseIdle, Reads: []api.Cell{}, Writes: []api.Cell{}},
		"over, empty lists":          {Phase: api.PhaseOver, Reads: []api.Cell{}, Writes: []api.Cell{}},
		"the greatest snapshot":      {Snapshot: top - 1, Phase: api.PhaseIdle},
		"the greatest found":         {Phase: api.PhaseClose, Then: api.PhaseLoad, Found: top - 1},
		"found 0":                    {Snapshot: 8, Phase: api.PhaseClose, Then: api.PhaseLoad},
		"no reads to look at":        {Phase: api.PhaseWait, Then: api.PhaseLoad, Addr: top},
		"an address of no cell":      {Phase: api.PhaseLoad, Addr: 3},
		"entries of no cell":         {Phase: api.PhaseIdle, Reads: entries(3, 1, top, 1), Writes: entries(3, 1, top, 1)},
		"reads that stand twice":     {Phase: api.PhaseIdle, Reads: entries(1, 6, 1, 6, 1, 7)},
		"read and written":           {Phase: api.PhaseLock, Reads: entries(1, 6), Writes: entries(1, 7)},
		"full logs, idle":            {Phase: api.PhaseIdle, Reads: many(1024), Writes: many(1024)},
		"full logs, lock":            {Phase: api.PhaseLock, Reads: many(1024), Writes: many(1024)},
		"full logs, free":            {Phase: api.PhaseFree, Reads: many(1024), Writes: many(1024)},
		"full logs, the last check":  {Phase: api.PhaseCheck, Then: api.PhaseLock, Reads: many(1024), Writes: many(1024), At: 1023},
		"full logs, the last store":  {Phase: api.PhaseStore, Reads: many(1024), Writes: many(1024), At: 1023},
		"full logs, the first store": {Phase: api.PhaseStore, Reads: many(1024), Writes: many(1024)},
		"room for one more, load":    {Phase: api.PhaseLoad, Addr: 1024, Reads: many(1023), Writes: many(1024)},
		"room for one more, look":    {Phase: api.PhaseLook, Addr: 1024, Word: top, Reads: many(1023), Writes: many(1024)},
		"room for one more, wait":    {Phase: api.PhaseWait, Then: api.PhaseLoad, Addr: 1024, Reads: many(1023), Writes: many(1024)},
		"room for one more, check":   {Phase: api.PhaseCheck, Then: api.PhaseLoad, Addr: 1024, Reads: many(1023), At: 1022},
		"room for one more, close":   {Phase: api.PhaseClose, Then: api.PhaseLoad, Addr: 1024, Reads: many(1023), Writes: many(1024)},
		"what is read is read again": {Phase: api.PhaseLoad, Addr: 1, Reads: entries(1, 6)},
	} {
		t.Run(name, func(t *testing.T) { asked(t, state) })
	}
}

// names tells which of Then, Addr, Word, Found and At a state's phase names.
func names(s api.Attempt) map[string]bool {
	validating := s.Phase == api.PhaseWait || s.Phase == api.PhaseCheck || s.Phase == api.PhaseClose
	return map[string]bool{
		"Then":  validating,
		"Addr":  s.Phase == api.PhaseLoad || s.Phase == api.PhaseLook || s.Then == api.PhaseLoad,
		"Word":  s.Phase == api.PhaseLook,
		"Found": s.Phase == api.PhaseCheck || s.Phase == api.PhaseClose,
		"At":    s.Phase == api.PhaseCheck || s.Phase == api.PhaseStore,
	}
}

// P7.1: what the phase does not name is 0.
func TestFromOfWhatIsNotNamed(t *testing.T) {
	changes := map[string][]func(*api.Attempt){
		"Then":  {func(s *api.Attempt) { s.Then = api.PhaseLoad }, func(s *api.Attempt) { s.Then = api.PhaseLock }, func(s *api.Attempt) { s.Then = -1 }},
		"Addr":  {func(s *api.Attempt) { s.Addr = 1 }, func(s *api.Attempt) { s.Addr = top }},
		"Word":  {func(s *api.Attempt) { s.Word = 6 }, func(s *api.Attempt) { s.Word = top }},
		"Found": {func(s *api.Attempt) { s.Found = 6 }, func(s *api.Attempt) { s.Found = top - 1 }},
		"At":    {func(s *api.Attempt) { s.At = 1 }, func(s *api.Attempt) { s.At = -1 }},
	}
	for name, state := range states() {
		for field, is := range names(state) {
			for _, change := range changes[field] {
				if !is {
					mayNot(t, name+" with "+field, with(state, change))
				}
			}
		}
	}
}

// P7.1: the other conditions, in all phases to which they belong.
func TestFromOfWhatMayNotBe(t *testing.T) {
	for name, state := range states() {
		for _, phase := range []api.Phase{math.MinInt, -1, 0, 11, 12, math.MaxInt} {
			mayNot(t, name+" made no phase", with(state, func(s *api.Attempt) { s.Phase = phase }))
		}
		for _, odd := range []uint64{1, 5, 1<<63 + 1, top} {
			mayNot(t, name+", snapshot odd", with(state, func(s *api.Attempt) { s.Snapshot = odd }))
			mayNot(t, name+", found odd", with(state, func(s *api.Attempt) { s.Found = odd }))
		}
		mayNot(t, name+", too many reads", with(state, func(s *api.Attempt) { s.Reads = many(1025) }))
		mayNot(t, name+", far too many reads", with(state, func(s *api.Attempt) { s.Reads = many(5000) }))
		mayNot(t, name+", too many writes", with(state, func(s *api.Attempt) { s.Writes = many(1027)[2:] }))
		mayNot(t, name+", one address twice", with(state, func(s *api.Attempt) { s.Writes = entries(2, 8, 0, 9, 2, 8) }))
		mayNot(t, name+", one address twice, at the end", with(state, func(s *api.Attempt) { s.Writes = entries(2, 8, 0, 9, 0, 1) }))
		mayNot(t, name+", one address 1025 times", with(state, func(s *api.Attempt) { s.Writes = make([]api.Cell, 1025) }))
	}
	for name, state := range states() {
		for _, then := range []api.Phase{math.MinInt, -1, 0, 1, 3, 4, 5, 6, 8, 9, 10, 11, math.MaxInt} {
			if names(state)["Then"] {
				mayNot(t, name+", leading nowhere", with(state, func(s *api.Attempt) { s.Then = then }))
				mayNot(t, name+", leading nowhere, of no address", with(state, func(s *api.Attempt) { s.Then, s.Addr = then, 0 }))
			}
		}
		for _, at := range []int{math.MinInt, -1, 3, 4, math.MaxInt} {
			if names(state)["At"] {
				mayNot(t, name+", at no entry", with(state, func(s *api.Attempt) { s.At = at }))
			}
		}
		if state.Phase == api.PhaseStore {
			mayNot(t, "store behind the last entry", with(state, func(s *api.Attempt) { s.At = 2 }))
		}
		if state.Phase == api.PhaseCheck {
			mayNot(t, "check of no entry", with(state, func(s *api.Attempt) { s.At, s.Reads = 0, nil }))
		}
		if names(state)["Addr"] {
			mayNot(t, name+", no room in the read log", with(state, func(s *api.Attempt) { s.Reads = many(1024) }))
			for _, own := range []uint64{0, 2} {
				mayNot(t, name+", an own address", with(state, func(s *api.Attempt) { s.Addr = own }))
			}
		}
		if state.Then == api.PhaseLock || state.Phase >= api.PhaseLock && state.Phase <= api.PhaseFree {
			mayNot(t, name+", nothing to write", with(state, func(s *api.Attempt) { s.Writes, s.At = nil, 0 }))
			mayNot(t, name+", nothing at all", with(state, func(s *api.Attempt) { s.Writes, s.Reads, s.At = []api.Cell{}, nil, 0 }))
		}
	}
	for what, change := range map[string]func(*api.Attempt){
		"a snapshot": func(s *api.Attempt) { s.Snapshot = 2 },
		"reads":      func(s *api.Attempt) { s.Reads = entries(1, 6) },
		"writes":     func(s *api.Attempt) { s.Writes = entries(1, 6) },
	} {
		mayNot(t, "over with "+what, with(gone, change))
	}
	mayNot(t, "nothing at all", api.Attempt{})
}

// busy is all states but of PhaseIdle.
func busy() map[string]api.Attempt {
	all := states()
	delete(all, "idle")
	return all
}

// P7.2, P7.3: in PhaseIdle alone.
func TestCallsOfIdleAlone(t *testing.T) {
	for name, state := range busy() {
		for what, call := range map[string]call{
			"Get": get(1), "Get of an own word": get(2), "Get of no cell": get(3),
			"Put": put(1, 1), "Put of an own word": put(2, 1), "Put of no cell": put(top, 1),
			"End": end,
		} {
			t.Run(what+", "+name, scene{state: state, clock: 4, call: call, err: api.ErrArg}.play)
		}
	}
}

// P7.2
func TestGet(t *testing.T) {
	idle := states()["idle"]
	looks := func(s api.Attempt, addr, word uint64) api.Attempt {
		return with(s, func(s *api.Attempt) { s.Phase, s.Addr, s.Word = api.PhaseLook, addr, word })
	}
	full := api.Attempt{Phase: api.PhaseIdle, Reads: many(1024), Writes: entries(2, 8, 9, 1)}
	room := with(full, func(s *api.Attempt) { s.Reads = many(1023) })
	play(t, []scene{
		{name: "a cell", state: idle, clock: 4, call: get(1), turn: going, behind: looks(idle, 1, 6), used: used{1, 0}},
		{name: "the clock is not asked", state: idle, clock: 7, call: get(1), turn: going, behind: looks(idle, 1, 6), used: used{1, 0}},
		{name: "the cell 0 of an empty attempt", state: api.Attempt{Phase: api.PhaseIdle}, call: get(0), turn: going, behind: looks(api.Attempt{}, 0, 5), used: used{1, 0}},
		{name: "the last cell", state: api.Attempt{Phase: api.PhaseIdle}, call: get(2), turn: going, behind: looks(api.Attempt{}, 2, 7), used: used{1, 0}},
		{name: "a cell that was read", state: api.Attempt{Phase: api.PhaseIdle, Reads: entries(1, 9)}, call: get(1), turn: going, behind: looks(api.Attempt{Reads: entries(1, 9)}, 1, 6), used: used{1, 0}},
		{name: "an own word", state: idle, clock: 4, call: get(2), turn: own(2, 8), behind: idle},
		{name: "an own word at an odd clock", state: idle, clock: 5, call: get(0), turn: own(0, 9), behind: idle},
		{name: "no cell", state: idle, clock: 4, call: get(3), err: api.ErrRange},
		{name: "the greatest address", state: idle, clock: 4, call: get(top), err: api.ErrRange},
		{name: "an address whose lower half is a cell's", state: idle, clock: 4, call: get(1 << 32), err: api.ErrRange},
		{name: "an own word of no cell", state: full, call: get(9), turn: own(9, 1), behind: full},
		{name: "a full read log", state: full, call: get(1), err: api.ErrFull},
		{name: "a full read log, a cell that was read", state: full, call: get(0), err: api.ErrFull},
		{name: "a full read log, no cell", state: full, call: get(3), err: api.ErrRange},
		{name: "a full read log, an own word", state: full, call: get(2), turn: own(2, 8), behind: full},
		{name: "room for one more", state: room, call: get(1), turn: going, behind: looks(room, 1, 6), used: used{1, 0}},
		{name: "an own word 0", state: api.Attempt{Phase: api.PhaseIdle, Writes: entries(1, 0)}, call: get(1), turn: own(1, 0), behind: api.Attempt{Phase: api.PhaseIdle, Writes: entries(1, 0)}},
	}, nil)
}

// P7.2
func TestPut(t *testing.T) {
	idle := states()["idle"]
	writes := func(s api.Attempt, list []api.Cell) api.Attempt {
		return with(s, func(s *api.Attempt) { s.Writes = list })
	}
	words := make([]uint64, 1025)
	full := api.Attempt{Phase: api.PhaseIdle, Reads: many(1024), Writes: many(1024)}
	full2 := writes(full, slices.Clone(full.Writes))
	full2.Writes[700].Word = top
	last := writes(full, full.Writes[:1023])
	play(t, []scene{
		{name: "a new address", state: idle, clock: 4, call: put(1, 3), turn: kept(1, 3), behind: writes(idle, entries(2, 8, 0, 9, 1, 3))},
		{name: "an odd clock", state: idle, clock: 7, call: put(1, 3), turn: kept(1, 3), behind: writes(idle, entries(2, 8, 0, 9, 1, 3))},
		{name: "an own address keeps its place", state: idle, clock: 4, call: put(2, top), turn: kept(2, top), behind: writes(idle, entries(2, top, 0, 9))},
		{name: "the same word", state: idle, clock: 4, call: put(0, 9), turn: kept(0, 9), behind: idle},
		{name: "of an empty attempt", state: api.Attempt{Phase: api.PhaseIdle}, call: put(0, 0), turn: kept(0, 0), behind: api.Attempt{Phase: api.PhaseIdle, Writes: entries(0, 0)}},
		{name: "no cell", state: idle, clock: 4, call: put(3, 1), err: api.ErrRange},
		{name: "the greatest address", state: idle, clock: 4, call: put(top, 1), err: api.ErrRange},
		{name: "an own address of no cell", state: writes(idle, entries(9, 1)), clock: 4, call: put(9, 2), err: api.ErrRange},
		{name: "a full redo log", state: full, words: words, call: put(1024, 1), err: api.ErrFull},
		{name: "a full redo log, no cell", state: full, words: words, call: put(1025, 1), err: api.ErrRange},
		{name: "a full redo log, an own address", state: full, words: words, call: put(700, top), turn: kept(700, top), behind: full2},
		{name: "room for one more", state: last, words: words, call: put(1023, 3069), turn: kept(1023, 3069), behind: full},
	}, nil)
}

// P7.3
func TestEnd(t *testing.T) {
	idle := states()["idle"]
	reads := with(idle, func(s *api.Attempt) { s.Writes = nil })
	in := func(change func(*api.Attempt)) api.Attempt { return with(idle, change) }
	stores := in(func(s *api.Attempt) { s.Phase = api.PhaseStore })
	waits := in(func(s *api.Attempt) { s.Phase, s.Then = api.PhaseWait, api.PhaseLock })
	far := func(s *api.Attempt) { s.Snapshot = top - 1 }
	play(t, []scene{
		{name: "reading alone", state: reads, clock: 4, turn: committed(2), behind: gone},
		{name: "reading alone, the clock is another one", state: reads, clock: 6, turn: committed(2), behind: gone},
		{name: "reading alone, the clock is held", state: reads, clock: 5, turn: committed(2), behind: gone},
		{name: "reading alone, the words are others", state: reads, words: []uint64{1, 1, 1}, clock: 4, turn: committed(2), behind: gone},
		{name: "nothing at all", state: api.Attempt{Phase: api.PhaseIdle}, turn: committed(0), behind: gone},
		{name: "reading alone, far on", state: with(reads, far), turn: committed(1<<63 - 1), behind: gone},
		{name: "writing", state: idle, clock: 4, turn: locked, behind: stores, set: 1, used: used{0, 1}},
		{name: "writing, the words are others", state: idle, words: []uint64{1, 1, 1}, clock: 4, turn: locked, behind: stores, set: 1, used: used{0, 1}},
		{name: "writing, far on", state: with(idle, far), clock: top - 1, turn: locked, behind: with(stores, far), set: 1, used: used{0, 1}},
		{name: "the clock has gone on", state: idle, clock: 6, turn: going, behind: waits, used: used{0, 1}},
		{name: "the clock is held at the snapshot", state: idle, clock: 5, turn: going, behind: waits, used: used{0, 1}},
		{name: "the clock is held further on", state: idle, clock: 7, turn: going, behind: waits, used: used{0, 1}},
		{name: "the clock is less", state: idle, clock: 2, turn: going, behind: waits, used: used{0, 1}},
		{name: "the clock is as far from it as can be", state: idle, clock: 1<<63 + 4, turn: going, behind: waits, used: used{0, 1}},
	}, end)
}

// P7.5
func TestDrop(t *testing.T) {
	for name, state := range states() {
		k := scene{state: state, clock: 4, call: drop, behind: gone}
		if state.Phase >= api.PhaseStore {
			k.err = api.ErrArg
		}
		t.Run(name, k.play)
	}
	s := over(t, 0, 5)
	a := s.begin(t)
	a.Put(0, 1)
	errno(t, "Drop", a.Drop(), api.OK)
	for what, call := range map[string]call{"Get": get(0), "Put": put(0, 2), "End": end, "Step": step, "Drop": drop} {
		turn, err := call(a)
		if turn != (api.Turn{}) || err != api.ErrArg {
			t.Errorf("%s of what is over answers %v, %v", what, turn, err)
		}
	}
	s.is(t, 0, 5)
}

// P7.6, P7.8
func TestNil(t *testing.T) {
	odd, _, _ := Begin(over(t, 7, 5).row, seq.From(7))
	refused, _ := From(api.Attempt{}, over(t, 0, 5).row, seq.New())
	for name, a := range map[string]*Attempt{"nil": nil, "begun at an odd clock": odd, "refused": refused, "zero": {}} {
		t.Run(name, func(t *testing.T) {
			for what, call := range map[string]call{"Get": get(0), "Put": put(0, 2), "End": end, "Step": step, "Drop": drop} {
				turn, err := call(a)
				if turn != (api.Turn{}) || err != api.ErrNil {
					t.Errorf("%s answers %v, %v", what, turn, err)
				}
			}
			stands(t, a, api.Attempt{})
			s := over(t, 0, 5)
			if c := a.Copy(s.row, s.clock); c != nil {
				t.Errorf("Copy is %v", c)
			}
			if c := a.Copy(nil, nil); c != nil {
				t.Errorf("Copy over nothing is %v", c)
			}
			if s.used() != (used{}) {
				t.Errorf("there were the accesses %v", s.used())
			}
		})
	}
}

// P7.6
func TestCopy(t *testing.T) {
	for name, state := range states() {
		t.Run(name, func(t *testing.T) {
			s, z := over(t, 4, 5, 6, 7), over(t, 8, 1, 2, 3)
			a := s.from(t, state)
			c := a.Copy(z.row, z.clock)
			if c == nil {
				t.Fatal("there is no copy")
			}
			stands(t, c, state)
			if s.used() != (used{}) || z.used() != (used{}) {
				t.Fatalf("Copy makes the accesses %v, %v", s.used(), z.used())
			}
			// The copy goes over what was handed in for it alone, and the attempt stays.
			for range 9 {
				c.Get(1)
				c.Put(1, 77)
				c.Step()
				c.End()
			}
			errno(t, "Drop of the copy", c.Drop(), api.ErrArg)
			stands(t, c, gone)
			stands(t, a, state)
			s.is(t, 4, 5, 6, 7)
			if s.used() != (used{}) {
				t.Fatalf("the copy makes the accesses %v to what is not its own", s.used())
			}
		})
	}
}

// P7.6: over the same row and clock, too.
func TestCopyGoesOnApart(t *testing.T) {
	s := over(t, 0, 5, 6, 7)
	a := s.begin(t)
	a.Get(0)
	a.Step()
	a.Put(1, 1)
	c := a.Copy(s.row, s.clock)
	a.Put(1, 2)
	a.Put(2, 2)
	a.Get(0)
	a.Step()
	c.Put(0, 3)
	stands(t, a, api.Attempt{Phase: api.PhaseIdle, Reads: entries(0, 5, 0, 5), Writes: entries(1, 2, 2, 2)})
	stands(t, c, api.Attempt{Phase: api.PhaseIdle, Reads: entries(0, 5), Writes: entries(1, 1, 0, 3)})
	for range 4 {
		a.End()
		a.Step()
	}
	s.is(t, 2, 5, 2, 2)
	stands(t, a, gone)
	for range 8 {
		c.End()
		c.Step()
	}
	s.is(t, 4, 3, 1, 2)
	stands(t, c, gone)
}

// P7.8
func TestAnswersAreNewMemory(t *testing.T) {
	s := over(t, 4, 5, 6, 7)
	state := states()["close for the lock"]
	a := s.from(t, state)
	one, two := a.State(), a.State()
	for _, list := range [][]api.Cell{one.Reads, one.Writes} {
		for at := range list[:cap(list)] {
			list[:cap(list)][at] = api.Cell{Addr: 99, Word: 99}
		}
	}
	if !alike(two, state) {
		t.Errorf("one state changes the other: %v", two)
	}
	stands(t, a, state)
	two.Reads = append(two.Reads, api.Cell{Addr: 98})
	two.Writes = append(two.Writes, api.Cell{Addr: 98})
	stands(t, a, state)

	// Nor does what comes later change what was answered.
	three := a.State()
	for range 9 {
		a.Step()
	}
	if !alike(three, state) {
		t.Errorf("a state has gone on: %v", three)
	}
}

// P7.8: room behind what is handed in is not used.
func TestSpareRoomStays(t *testing.T) {
	spare := entries(0, 5, 1, 6, 2, 7)
	writes := entries(0, 1, 1, 2, 2, 3)
	s := over(t, 4, 5, 6, 7)
	a := s.from(t, api.Attempt{Snapshot: 4, Phase: api.PhaseIdle, Reads: spare[:1], Writes: writes[:1]})
	a.Get(2)
	a.Step()
	a.Put(2, 9)
	a.Put(0, 9)
	if !slices.Equal(spare, entries(0, 5, 1, 6, 2, 7)) || !slices.Equal(writes, entries(0, 1, 1, 2, 2, 3)) {
		t.Errorf("what was handed in is %v, %v", spare, writes)
	}
}

func TestExamples(t *testing.T) {
	s := over(t, 0, 5, 6, 7)
	does := func(a *Attempt, want api.Turn, err api.Errno, call call) {
		t.Helper()
		turn, got := call(a)
		if turn != want || got != err {
			t.Fatalf("it answers %+v, %v, not %+v, %v", turn, got, want, err)
		}
	}
	a, turn, err := Begin(s.row, s.clock)
	if turn != (api.Turn{Out: api.OutBegun, Event: api.Event{Kind: api.Begin}}) || err != api.OK {
		t.Fatalf("Begin answers %v, %v", turn, err)
	}
	does(a, going, api.OK, get(1))
	does(a, read(1, 6), api.OK, step)

	does(a, kept(1, 9), api.OK, put(1, 9))
	does(a, own(1, 9), api.OK, get(1))
	does(a, api.Turn{}, api.ErrRange, get(3))
	does(a, api.Turn{}, api.ErrRange, put(3, 1))

	does(a, locked, api.OK, end)
	does(a, going, api.OK, step)
	does(a, committed(1), api.OK, step)
	s.is(t, 2, 5, 9, 7)

	does(a, api.Turn{}, api.ErrArg, step)
	does(a, api.Turn{}, api.ErrArg, drop)
	does(a, api.Turn{}, api.ErrArg, get(0))

	b := s.begin(t)
	does(b, going, api.OK, get(0))
	s.set(t, 4)
	does(b, going, api.OK, step)
	stands(t, b, api.Attempt{Snapshot: 2, Phase: api.PhaseWait, Then: api.PhaseLoad})

	does(b, going, api.OK, step)
	stands(t, b, api.Attempt{Snapshot: 2, Phase: api.PhaseClose, Then: api.PhaseLoad, Found: 4})
	does(b, moved(4), api.OK, step)
	does(b, going, api.OK, step)
	does(b, read(0, 5), api.OK, step)

	s.row.Store(0, 8)
	s.set(t, 6)
	does(b, kept(2, 1), api.OK, put(2, 1))
	does(b, going, api.OK, end)
	if b.Phase() != api.PhaseWait {
		t.Errorf("behind End the phase is %d", b.Phase())
	}
	does(b, going, api.OK, step)
	does(b, stale, api.OK, step)

	s.set(t, 7)
	if c, turn, err := Begin(s.row, s.clock); c != nil || turn != (api.Turn{Out: api.OutOdd}) || err != api.OK {
		t.Errorf("Begin at 7 answers %v, %v, %v", c, turn, err)
	}
}
