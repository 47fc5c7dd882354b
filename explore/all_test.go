package explore

import (
	"fmt"
	"reflect"
	"slices"
	"testing"

	"parley/api"
)

// straight is a program that has so many states: it does one instruction after the other, and halts.
func straight(states int) []api.Instr {
	return append(slices.Repeat(prog("const 0 1"), states-2), prog("halt")...)
}

// counting is a program that has so many states, of which 3 more come by each round of its loop.
func counting(states int) []api.Instr {
	rounds := (states - 6) / 3
	rest := slices.Repeat(prog("const 3 1"), states-6-3*rounds)
	p := slices.Concat(rest, prog("const 0 0 | const 1 1 | sub 0 0 1 | zero 0 0 | jump 0 | halt"))
	at := len(rest)
	p[at].N, p[at+3].N, p[at+4].N = uint64(rounds+1), uint64(at+5), uint64(at+2)
	return p
}

// The programs that other tests lean on have as many states as they say.
func TestCounting(t *testing.T) {
	for n := 6; n < 60; n++ {
		s := api.Script{Cells: 1, Programs: [][]api.Instr{counting(n)}}
		foundIs(t, s, api.Found{States: n, Ends: 1, Wide: 1})
		s.Programs[0] = straight(n)
		foundIs(t, s, api.Found{States: n, Ends: 1, Wide: 1})
		agrees(t, s, 100)
	}
}

// P19.1: as many states as MaxStates.
func TestAsManyAsMayBe(t *testing.T) {
	for _, x := range []struct {
		programs [][]api.Instr
		wide     int
	}{
		{[][]api.Instr{counting(65536)}, 1},
		{[][]api.Instr{counting(32768), prog("halt")}, 2},
		{[][]api.Instr{straight(256), straight(256)}, 256},
		{slices.Repeat([][]api.Instr{straight(16)}, 4), 2736},
		{slices.Repeat([][]api.Instr{straight(4)}, 8), 8092},
	} {
		s := api.Script{Cells: 1, Programs: x.programs}
		foundIs(t, s, api.Found{States: api.MaxStates, Ends: 1, Wide: x.wide})
	}
	s := api.Script{Cells: 1, Programs: [][]api.Instr{straight(256), straight(256)}}
	l, err := Distances(s)
	if err != api.OK || len(l) != 511 || l[0] != 1 || l[255] != 256 || l[510] != 1 {
		t.Errorf("Distances answers %d, %v", len(l), err)
	}
	ends, err := Ends(s)
	want := slices.Concat(make([]uint32, 255), slices.Repeat([]uint32{1}, 255))
	if err != api.OK || len(ends) != 1 || !slices.Equal(ends[0].Picks, want) {
		t.Errorf("Ends answers %v, %v", ends, err)
	}
	picksAre(t, s, []uint64{0}, want)
	mustIs(t, s, true, 0, 0)
	count := 0
	for range Each(s, 1000) {
		count++
	}
	if count != api.MaxStates {
		t.Errorf("Each tells %d", count)
	}
}

// many asks All whether a script has too many states.
func many(t *testing.T, what string, s api.Script) {
	t.Helper()
	if f, err := All(s); err != api.ErrMany || f != (api.Found{}) {
		t.Errorf("%s: All answers %+v, %v", what, f, err)
	}
}

// P19.1: one more, many more, and as many as one likes.
func TestMany(t *testing.T) {
	refused(t, "one more", api.Script{Cells: 1, Programs: [][]api.Instr{counting(65537)}}, api.ErrMany)
	for what, programs := range map[string][][]api.Instr{
		"two more":          {counting(32769), prog("halt")},
		"256 more":          {straight(257), straight(256)},
		"more, of eight":    append(slices.Repeat([][]api.Instr{straight(4)}, 7), straight(5)),
		"without end":       {prog("const 1 1 | add 0 0 1 | jump 1")},
		"long":              slices.Repeat([][]api.Instr{straight(257)}, 8),
		"a round beside it": {prog("jump 0"), counting(65537)},
	} {
		many(t, what, api.Script{Cells: 1, Programs: programs})
	}
	// In all cells there may be, and with the longest logs.
	for what, text := range map[string]string{
		"stores":    "const 1 40503 | const 2 65536 | const 3 1 | store 3 0 | add 0 0 1 | less 4 0 2 | zero 4 8 | jump 3 | sub 0 0 2 | jump 3",
		"long logs": "const 1 1 | const 4 400 | add 4 4 1 | const 2 0 | begin | get 5 2 | put 4 2 | add 2 2 1 | less 6 2 4 | zero 6 11 | jump 5 | end | jump 2",
	} {
		many(t, what, script(65536, nil, text, "halt"))
	}
}

// P19.1: ErrScript ahead of ErrMany.
func TestScriptAheadOfMany(t *testing.T) {
	long := counting(70000)
	refused(t, "no cells", api.Script{Programs: [][]api.Instr{long}}, api.ErrScript)
	refused(t, "a first word too many", api.Script{Cells: 1, First: []uint64{1, 2}, Programs: [][]api.Instr{long}}, api.ErrScript)
	refused(t, "nine programs", api.Script{Cells: 1, Programs: slices.Repeat([][]api.Instr{long}, 9)}, api.ErrScript)
	refused(t, "a program that may not run", api.Script{Cells: 1, Programs: [][]api.Instr{long, prog("begin | halt")}}, api.ErrScript)
}

// P19.1: rounds of one step and of several, at the beginning and later, of one thread and of two; and where there are none.
func TestLoops(t *testing.T) {
	const writes = "begin | put 0 0 | end | halt"
	for _, x := range []struct {
		cells    int
		programs []string
		want     bool
	}{
		{1, []string{"jump 0"}, true},
		{1, []string{"zero 0 0 | halt"}, true},
		{1, []string{"const 0 0 | jump 0"}, true},
		{1, []string{"const 0 1 | const 0 2 | const 0 0 | jump 0"}, true},
		{1, []string{"const 0 1 | jump 1"}, true},
		{1, []string{"const 0 1 | jump 0"}, true},
		{1, []string{"const 0 1 | const 0 2 | move 1 0 | jump 1"}, true},
		{1, []string{"load 0 1 | zero 0 0 | halt"}, true},
		{1, []string{"begin | end | jump 0"}, true},
		{1, []string{"begin | get 0 1 | end | jump 0"}, true},
		{1, []string{"begin | abort 0"}, true},
		{1, []string{"begin | put 0 1 | get 0 1 | abort 0"}, true},
		{2, []string{"const 0 1 | store 0 1 | const 0 0 | store 0 1 | jump 0"}, true},
		{1, []string{"halt", "jump 0"}, true},
		{1, []string{"jump 0", "halt"}, true},
		{1, []string{"jump 0", "jump 0"}, true},
		// It turns till another one has stored, or has committed: not all picks go round, but some do.
		{1, []string{"const 0 1 | store 0 1 | halt", "load 0 1 | zero 0 0 | halt"}, true},
		{1, []string{writes, "begin | end | halt"}, true}, // a begin at an odd clock
		{1, []string{writes, writes}, true},
		{1, []string{"const 3 1 | load 0 1 | zero 0 1 | halt", "store 0 1 | halt"}, true},
		// None.
		{1, []string{"const 2 1 | load 0 1 | equal 0 0 3 | zero 0 1 | store 2 1 | halt", "halt"}, false},
		{1, []string{"halt"}, false},
		{1, []string{"const 0 1 | halt"}, false},
		{1, []string{"zero 0 2 | halt | halt"}, false},
		{1, []string{"const 0 1 | zero 0 1 | halt"}, false},
		{1, []string{"begin | end | halt"}, false},
		{1, []string{writes}, false},
		{1, []string{writes, "halt"}, false},
		{1, []string{"begin | get 0 1 | end | halt", "begin | end | begin | get 0 1 | end | halt"}, false},
		{1, []string{"store 0 1 | load 0 1 | halt", "load 0 1 | store 0 1 | halt"}, false},
		{1, []string{"const 0 9 | load 0 0 | halt", "const 0 3 | const 1 1 | sub 0 0 1 | zero 0 5 | jump 2 | halt"}, false},
		{1, []string{"begin | zero 0 1 | end | halt"}, false}, // it goes round, but not the number of its instructions
		{1, []string{"begin | get 0 1 | jump 1"}, false},
	} {
		s := script(x.cells, nil, x.programs...)
		f, err := All(s)
		if err != api.OK || f.Loops != x.want {
			t.Errorf("%v: %+v, %v", x.programs, f, err)
		}
		if f.States <= 3000 {
			agrees(t, s, 3000)
		}
	}
}

// A round that no thread makes alone: the two of them set the cell by turns, and each waits for the other one.
func TestLoopsOfTwo(t *testing.T) {
	turns := []string{
		"const 1 1 | load 0 7 | zero 0 4 | jump 6 | store 1 7 | jump 1 | halt",
		"load 0 7 | zero 0 4 | store 7 7 | jump 0 | halt",
	}
	for n, text := range turns {
		s := script(1, []uint64{uint64(n)}, text)
		f, err := All(s)
		if err != api.OK || f.Loops || f.Ends != 1 {
			t.Errorf("%s: %+v, %v", text, f, err)
		}
	}
	s := script(1, nil, turns...)
	agrees(t, s, 1000)
	if f, err := All(s); err != api.OK || !f.Loops || f.Ends == 0 {
		t.Errorf("both: %+v, %v", f, err)
	}
}

// mask is a change of a state that takes something away from it.
type mask func(o *api.Outcome)

// ofThreads is a mask of each thread.
func ofThreads(change func(*api.Thread)) mask {
	return func(o *api.Outcome) {
		o.Threads = slices.Clone(o.Threads)
		for n := range o.Threads {
			change(&o.Threads[n])
		}
	}
}

// P19.1: states that differ in nothing but one thing are two.
func TestDifferInOneThing(t *testing.T) {
	for _, x := range []struct {
		what     string
		mask     mask
		cells    int
		programs []string
	}{
		{"a cell", func(o *api.Outcome) { o.Cells = make([]uint64, len(o.Cells)) }, 2, []string{"const 0 1 | store 0 1 | const 0 0 | halt", "store 7 7 | halt"}},
		{"the clock", func(o *api.Outcome) { o.Clock = 0 }, 2, []string{"const 2 1 | store 2 2 | store 7 2 | halt", "const 2 1 | load 0 2 | zero 0 6 | begin | put 7 7 | end | const 0 0 | halt"}},
		{"a place", ofThreads(func(t *api.Thread) { t.At = 0 }), 1, []string{"const 0 0 | const 0 0 | halt"}},
		{"an end's place", ofThreads(func(t *api.Thread) { t.At = 0 }), 2, []string{"const 2 1 | store 2 7 | store 7 7 | halt", "load 0 7 | zero 0 4 | const 0 0 | halt | halt"}},
		{"a register", ofThreads(func(t *api.Thread) { t.Regs = [8]uint64{} }), 1, []string{"const 7 1 | zero 0 0 | halt"}},
		{"a register of two", ofThreads(func(t *api.Thread) { t.Regs = [8]uint64{} }), 1, []string{"const 3 5 | store 3 0 | halt", "load 4 0 | halt"}},
		{"a status", ofThreads(func(t *api.Thread) { t.Status = 0 }), 1, []string{"halt"}},
		{"an error", ofThreads(func(t *api.Thread) { t.Err = 0 }), 1, []string{"const 2 9 | store 2 7 | halt", "begin | get 0 7 | zero 0 4 | get 1 0 | zero 7 4 | end | halt"}},
		{"what was kept ahead of a block", ofThreads(func(t *api.Thread) { t.Saved = [8]uint64{} }), 1, []string{"const 3 5 | store 3 0 | halt", "load 4 0 | begin | const 4 0 | end | halt"}},
		{"what was read", ofThreads(func(t *api.Thread) { t.Attempt.Reads = nil }), 1, []string{"const 3 5 | store 3 0 | halt", "begin | get 4 0 | const 4 0 | end | halt"}},
		{"what was read and written", ofThreads(func(t *api.Thread) { t.Attempt.Reads, t.Attempt.Writes = nil, nil }), 1, []string{"const 3 5 | store 3 0 | halt", "begin | get 4 0 | put 4 7 | const 4 0 | zero 7 6 | abort 7 | end | halt"}},
		{"what was loaded", ofThreads(func(t *api.Thread) { t.Attempt.Word = 0 }), 1, []string{"const 3 5 | store 3 0 | halt", "begin | get 4 0 | end | halt"}},
		{"a snapshot", ofThreads(func(t *api.Thread) { t.Attempt.Snapshot = 0 }), 1, []string{"begin | put 0 0 | end | halt", "begin | get 0 7 | end | halt"}},
		{"what the clock was found at", ofThreads(func(t *api.Thread) { t.Attempt.Found = 0 }), 1, []string{"begin | put 0 0 | end | begin | put 0 0 | end | halt", "begin | get 0 7 | get 1 7 | end | halt"}},
		{"a phase", ofThreads(func(t *api.Thread) { t.Attempt.Phase = 0 }), 2, []string{"begin | put 0 0 | end | halt", "begin | get 0 7 | end | halt"}},
		{"an entry's place", ofThreads(func(t *api.Thread) { t.Attempt.At = 0 }), 2, []string{"const 1 1 | begin | put 0 0 | put 0 1 | end | halt"}},
		{"how many instructions", ofThreads(func(t *api.Thread) { t.Fuel = 0 }), 1, []string{"begin | zero 0 1 | end | halt"}},
	} {
		t.Run(x.what, func(t *testing.T) {
			s := script(x.cells, nil, x.programs...)
			m, has := modeled(t, s, 20000)
			if !has {
				t.Fatal("it has too many states")
			}
			masked := map[string]int{}
			for _, st := range m.states {
				o := st.outcome
				x.mask(&o)
				masked[full(o)]++
			}
			if len(masked) >= len(m.states) {
				t.Fatalf("no two of %d states differ in nothing else", len(m.states))
			}
			foundIs(t, s, m.found())
			endsAre(t, s, m.ends()...)
			distancesAre(t, s, m.distances()...)
		})
	}
}

// P19.1: by an endless row of commits nothing changes but the clock.
func TestClockAlone(t *testing.T) {
	many(t, "commits", script(1, nil, "begin | put 0 0 | end | jump 0"))
	foundIs(t, script(1, nil, "begin | get 0 0 | end | jump 0"), api.Found{States: 5, Wide: 1, Loops: true})
	foundIs(t, script(1, nil, "store 0 0 | jump 0"), api.Found{States: 2, Wide: 1, Loops: true})
}

// P19.1: an attempt that goes round till it has done too many instructions.
func TestFuel(t *testing.T) {
	s := script(1, nil, "begin | zero 0 1 | end | halt")
	foundIs(t, s, api.Found{States: 2 + 1 + api.MaxFuel, Ends: 1, Wide: 1})
	s = script(1, nil, "begin | zero 0 1 | end | halt", "halt")
	foundIs(t, s, api.Found{States: 2 * (2 + 1 + api.MaxFuel), Ends: 1, Wide: 2})
}

// Each field of a thread, and of its attempt, tells it from others: on the shelf, by its sum, and in the model.
func TestEveryField(t *testing.T) {
	entry := []api.Cell{{Addr: 5, Word: 6}}
	base := api.Thread{Attempt: api.Attempt{Reads: slices.Clone(entry), Writes: slices.Clone(entry)}}
	count := 0
	var change func(path string, v reflect.Value, top *api.Thread)
	change = func(path string, v reflect.Value, top *api.Thread) {
		switch v.Kind() {
		case reflect.Struct:
			for n := range v.NumField() {
				change(path+"."+v.Type().Field(n).Name, v.Field(n), top)
			}
			return
		case reflect.Array, reflect.Slice:
			for n := range v.Len() {
				change(fmt.Sprint(path, n), v.Index(n), top)
			}
			return
		}
		was := reflect.ValueOf(v.Interface())
		switch v.Kind() {
		case reflect.Bool:
			v.SetBool(!v.Bool())
		case reflect.Int:
			v.SetInt(v.Int() + 1)
		case reflect.Uint64:
			v.SetUint(v.Uint() + 1)
		default:
			t.Fatalf("%s is a %v", path, v.Kind())
		}
		differs(t, path, base, *top)
		v.Set(was)
		count++
	}
	other := base
	other.Attempt.Reads, other.Attempt.Writes = slices.Clone(entry), slices.Clone(entry)
	change("thread", reflect.ValueOf(&other).Elem(), &other)
	if count != 13+2*8+4 {
		t.Errorf("%d fields", count)
	}
	for path, log := range map[string][]api.Cell{"none": nil, "one more": {{Addr: 5, Word: 6}, {Addr: 5, Word: 6}}, "a zero one more": {{Addr: 5, Word: 6}, {}}} {
		other = base
		other.Attempt.Reads = log
		differs(t, "reads: "+path, base, other)
		other = base
		other.Attempt.Writes = log
		differs(t, "writes: "+path, base, other)
	}
	other = base
	other.Attempt.Reads, other.Attempt.Writes = append(slices.Clone(entry), entry...), nil
	differs(t, "all entries in one log", base, other)

	empty := api.Thread{Attempt: api.Attempt{Reads: []api.Cell{}, Writes: []api.Cell{}}}
	if shelf := newStands(); shelf.put(api.Thread{}) != shelf.put(empty) {
		t.Error("an empty log is another one than none")
	}
}

// differs asks whether two threads are two.
func differs(t *testing.T, what string, a, b api.Thread) {
	t.Helper()
	shelf := newStands()
	x, y := shelf.put(a), shelf.put(b)
	if x == y || sameStand(x, y) || x.sum == y.sum {
		t.Errorf("%s: they are the same", what)
	}
	if slices.Equal(threadWords(a), threadWords(b)) {
		t.Errorf("%s: in the model they are the same", what)
	}
	if shelf.put(a) != x || shelf.put(b) != y {
		t.Errorf("%s: the shelf has one twice", what)
	}
}
