package races

import (
	"math"
	"slices"
	"testing"

	"parley/api"
	"parley/check"
)

// sameScript tells whether two scripts are one.
func sameScript(a, b api.Script) bool {
	return a.Cells == b.Cells && slices.Equal(a.First, b.First) && slices.Equal(a.Picks, b.Picks) && slices.EqualFunc(a.Programs, b.Programs, slices.Equal[[]api.Instr])
}

// splitIs asks for a script's Split.
func splitIs(t *testing.T, s, want api.Script) {
	t.Helper()
	if got, ok := Split(s); !ok || !sameScript(got, want) {
		t.Errorf("Split of %v answers %v, %v, not %v", s, got, ok, want)
	}
}

// becomes asks for the Split of one program, in a script of its own and between others.
func becomes(t *testing.T, p, want []api.Instr) {
	t.Helper()
	halt := prog("halt")
	splitIs(t, api.Script{Cells: 1, Programs: [][]api.Instr{p}}, api.Script{Cells: 1, Programs: [][]api.Instr{want}})
	splitIs(t, api.Script{Programs: [][]api.Instr{halt, p, prog("load 1 2 | halt"), p}}, api.Script{Programs: [][]api.Instr{halt, want, prog("begin | get 1 2 | end | halt"), want}})
}

// noSplit asks for none of a program, in a script of its own and between others.
func noSplit(t *testing.T, p []api.Instr) {
	t.Helper()
	for _, programs := range [][][]api.Instr{{p}, {prog("halt"), p}, {p, prog("load 1 2 | halt")}, {prog("load 1 2 | halt"), p, prog("halt")}} {
		got, ok := Split(api.Script{Cells: 2, First: []uint64{1}, Picks: []uint32{1}, Programs: programs})
		if ok || got.Cells != 0 || got.First != nil || got.Programs != nil || got.Picks != nil {
			t.Errorf("Split of %v answers %v, %v", few(p), got, ok)
		}
	}
}

// P18.4: loads and stores of any registers; all other operations stay.
func TestSplitRegisters(t *testing.T) {
	for a := range api.Regs {
		for b := range api.Regs {
			halt := api.Instr{Op: api.OpHalt}
			becomes(t, []api.Instr{{Op: api.OpLoad, A: a, B: b}, halt}, []api.Instr{{Op: api.OpBegin}, {Op: api.OpGet, A: a, B: b}, {Op: api.OpEnd}, halt})
			becomes(t, []api.Instr{{Op: api.OpStore, A: a, B: b}, halt}, []api.Instr{{Op: api.OpBegin}, {Op: api.OpPut, A: a, B: b}, {Op: api.OpEnd}, halt})
		}
	}
	becomes(t, prog("load 1 2 | load 1 2 | store 2 1 | halt"), prog("begin | get 1 2 | end | begin | get 1 2 | end | begin | put 2 1 | end | halt"))
	const rest = "const 1 18446744073709551615 | move 1 2 | add 1 2 3 | sub 4 5 6 | mul 7 0 1 | less 1 1 1 | equal 1 2 3 | begin | get 1 2 | put 3 4 | end | "
	becomes(t, prog(rest+"store 3 4 | "+rest+"halt"), prog(rest+"begin | put 3 4 | end | "+rest+"halt"))
}

// P18.4: targets ahead of loads and stores, at them, between and behind them.
func TestSplitTargets(t *testing.T) {
	// Each place of a program with loads and stores as the target of its first instruction, and of its last but one.
	const body = "const 1 1 | load 0 1 | const 1 1 | store 0 1 | store 0 1 | begin | abort 0 | const 2 2"
	at := []uint64{0, 1, 2, 5, 6, 9, 12, 13, 14, 15, 16}
	for target, want := range at {
		if target == 7 {
			continue // inside: this place is asked for below
		}
		p := slices.Concat(prog("zero 3 0"), prog(body), prog("jump 0 | halt"))
		q := slices.Concat(prog("zero 3 0"), prog("const 1 1 | begin | get 0 1 | end | const 1 1 | begin | put 0 1 | end | begin | put 0 1 | end | begin | abort 0 | const 2 2"), prog("jump 0 | halt"))
		p[0].N, q[0].N = uint64(target), want
		p[len(p)-2].N, q[len(q)-2].N = uint64(target), want
		p[7].N, q[13].N = uint64(target), want
		becomes(t, p, q)
	}
	becomes(t, prog("begin | zero 0 3 | const 1 1 | get 1 1 | zero 1 6 | abort 8 | end | load 1 1 | store 1 1 | jump 7"),
		prog("begin | zero 0 3 | const 1 1 | get 1 1 | zero 1 6 | abort 10 | end | begin | get 1 1 | end | begin | put 1 1 | end | jump 7"))
	// Numbers of const are no targets.
	becomes(t, prog("load 0 1 | const 1 1 | const 2 2 | jump 1"), prog("begin | get 0 1 | end | const 1 1 | const 2 2 | jump 3"))
	becomes(t, prog("load 0 1 | jump 0"), prog("begin | get 0 1 | end | jump 0"))
}

// P18.4: places to which no way leads are split, and their targets moved, as all others.
func TestSplitUnreached(t *testing.T) {
	becomes(t, prog("jump 5 | load 0 1 | begin | load 2 3 | jump 3 | halt | store 1 1"), prog("jump 9 | begin | get 0 1 | end | begin | begin | get 2 3 | end | jump 5 | halt | begin | put 1 1 | end"))
}

// P18.4: a program of just MaxCode instructions then, and one past it; of a program that has so many already.
func TestSplitMaxCode(t *testing.T) {
	load, one, halt := api.Instr{Op: api.OpLoad, A: 1, B: 2}, api.Instr{Op: api.OpConst, N: 3}, api.Instr{Op: api.OpHalt}
	program := func(loads, others int) []api.Instr {
		return slices.Concat(slices.Repeat([]api.Instr{load}, loads), slices.Repeat([]api.Instr{one}, others), []api.Instr{halt})
	}
	for _, loads := range []int{0, 1, 2, 10, 84, 85} {
		p := program(loads, api.MaxCode-1-3*loads)
		want := slices.Concat(slices.Repeat(prog("begin | get 1 2 | end"), loads), p[loads:])
		if len(want) != api.MaxCode {
			t.Fatal(len(want))
		}
		becomes(t, p, want)
		if loads > 0 {
			noSplit(t, program(loads, api.MaxCode-3*loads))
			noSplit(t, program(loads, api.MaxCode-3*loads+1))
		}
	}
	noSplit(t, program(255, 0))
	noSplit(t, program(86, 0))
	noSplit(t, program(0, 256))
}

// P18.4: a program that may not run, for each error of layer 10.
func TestSplitOfNone(t *testing.T) {
	for err, all := range map[api.Errno][][]api.Instr{
		api.ErrCount:  {nil, {}, slices.Repeat(prog("halt"), 257)},
		api.ErrForm:   {{{}}, {{Op: api.OpLoad, A: 8}, {Op: api.OpHalt}}, {{Op: api.OpStore, B: -1}, {Op: api.OpHalt}}, {{Op: api.OpLoad, C: 1}, {Op: api.OpHalt}}, {{Op: 18}}, {{Op: math.MinInt}}},
		api.ErrTarget: {prog("jump 2 | halt"), prog("zero 0 18446744073709551615 | halt"), prog("begin | abort 9 | halt")},
		api.ErrBehind: {prog("load 0 1"), prog("const 0 1"), prog("end")},
		api.ErrMode:   {prog("end | halt"), prog("begin | load 0 1 | end | halt"), prog("begin | store 0 1 | end | halt"), prog("get 0 1 | halt"), prog("begin | halt")},
	} {
		for _, p := range all {
			if w := check.Program(p); w.Err != err {
				t.Errorf("%v: %v", p, w)
			}
			noSplit(t, p)
		}
	}
}

// P18.4: all else of the script stays, whatever it is: the script as a whole is not asked for.
func TestSplitKeepsTheRest(t *testing.T) {
	const text, want = "load 1 2 | jump 0", "begin | get 1 2 | end | jump 0"
	picks := []uint32{0, 9, math.MaxUint32, 1}
	for _, cells := range []int{0, 1, 7, -1, api.MaxCells, api.MaxCells + 1, math.MaxInt, math.MinInt} {
		for _, first := range [][]uint64{nil, {}, {5}, {top, 0, 6, 7, 8, 9, 10, 11}} {
			for _, programs := range []int{0, 1, 2, 8, 9, 100} {
				s := api.Script{Cells: cells, First: first, Picks: picks[:programs%5], Programs: slices.Repeat([][]api.Instr{prog(text)}, programs)}
				splitIs(t, s, api.Script{Cells: cells, First: first, Picks: picks[:programs%5], Programs: slices.Repeat([][]api.Instr{prog(want)}, programs)})
			}
		}
	}
	splitIs(t, api.Script{}, api.Script{})
	splitIs(t, api.Script{Cells: 1, Picks: make([]uint32, api.MaxPicks+1)}, api.Script{Cells: 1, Picks: make([]uint32, api.MaxPicks+1)})
}

// modelSplit counts, for each target, the loads and stores ahead of it.
func modelSplit(p []api.Instr) []api.Instr {
	var l []api.Instr
	for _, i := range p {
		switch i.Op {
		case api.OpLoad, api.OpStore:
			l = append(l, api.Instr{Op: api.OpBegin}, api.Instr{Op: api.OpGet + (i.Op - api.OpLoad), A: i.A, B: i.B}, api.Instr{Op: api.OpEnd})
			continue
		case api.OpJump, api.OpZero, api.OpAbort:
			for _, ahead := range p[:i.N] {
				if ahead.Op == api.OpLoad || ahead.Op == api.OpStore {
					i.N += 2
				}
			}
		}
		l = append(l, i)
	}
	return l
}

// P18.4: drawn programs against the model; what comes may run.
func TestSplitDrawn(t *testing.T) {
	d := drawn(5)
	for range 2000 {
		s := d.script(5)
		want := s
		want.Programs = nil
		for _, p := range s.Programs {
			want.Programs = append(want.Programs, modelSplit(p))
		}
		splitIs(t, s, want)
		if n, w := check.All(want.Programs...); w.Err != api.OK {
			t.Errorf("%v may not run: %v", want.Programs[n], w)
		}
	}
}

// alone is where a script's only thread comes to within some steps.
func alone(t *testing.T, s api.Script, steps int) api.Outcome {
	t.Helper()
	s.Picks = make([]uint32, steps)
	return run(t, s)
}

// P18.4: alone a program does the same, its accesses being blocks: it comes to the same cells, registers and error.
func TestSplitDoesTheSame(t *testing.T) {
	d := drawn(6)
	ended, broken := 0, 0
	for range 800 {
		s := d.script(0)
		s.Programs = s.Programs[:1]
		before := alone(t, s, 500)
		parts, _ := Split(s)
		after := alone(t, parts, 3000)
		a, b := before.Threads[0], after.Threads[0]
		switch a.Status {
		case api.Ended:
			ended++
		case api.Broken:
			broken++
		default:
			continue
		}
		if a.Status != b.Status || a.Err != b.Err || a.Regs != b.Regs || !slices.Equal(before.Cells, after.Cells) {
			t.Fatalf("%v: %v, %v; split %v, %v", s, a, before.Cells, b, after.Cells)
		}
	}
	if ended < 100 || broken < 50 {
		t.Errorf("%d ended, %d broken", ended, broken)
	}
}

// isPlain tells whether an event is of a plain access, one that failed too.
func isPlain(h []api.Event, at int) bool {
	switch h[at].Kind {
	case api.Loaded, api.Stored:
		return true
	case api.Failed:
		n := at - 1
		for n >= 0 && h[n].Thread != h[at].Thread {
			n--
		}
		return n < 0 || h[n].Kind != api.Begin && h[n].Kind != api.Read && h[n].Kind != api.Write && h[n].Kind != api.Moved
	}
	return false
}

// P18.7: a run of a Split script has no plain accesses, and so it is quiet.
func TestSplitRuns(t *testing.T) {
	d := drawn(7)
	before := 0
	for range 500 {
		s := d.script(400)
		for _, e := range run(t, s).Events {
			before += cut(e.Kind == api.Loaded || e.Kind == api.Stored)
		}
		parts, ok := Split(s)
		if !ok {
			t.Fatalf("%v is not split", s)
		}
		h := run(t, parts).Events
		for at := range h {
			if isPlain(h, at) {
				t.Fatalf("%v: %s: a plain access at %d", s, asText(h), at)
			}
		}
		for _, p := range parts.Programs {
			if plain, err := check.Plain(p); plain || err != api.OK {
				t.Fatalf("%v: %v, %v", p, plain, err)
			}
		}
		racesAre(t, h)
	}
	if before < 5000 {
		t.Errorf("%d plain accesses ahead of Split", before)
	}
}

// P18.7: of a script without loads and stores Split is the script; so Split of Split is Split.
func TestSplitOfSplit(t *testing.T) {
	d := drawn(8)
	for range 1000 {
		once, ok := Split(d.script(20))
		if !ok {
			t.Fatal("no split")
		}
		splitIs(t, once, once)
	}
	s := script(3, []uint64{1, 2}, "begin | get 0 1 | put 0 2 | abort 4 | halt", "halt", "jump 0")
	splitIs(t, s, s)
}
