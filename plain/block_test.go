package plain

import (
	"math"
	"slices"
	"testing"

	"parley/api"
	"parley/cells"
	"parley/seq"
	stepwise "parley/thread"
)

// refusedBlock asks Block for an error, and for nothing beside it.
func refusedBlock(t *testing.T, p []api.Instr, at int, want api.Errno) {
	t.Helper()
	if s, err := Block(p, at, [8]uint64{1: 3}, []uint64{5}); err != want || !sameStroke(s, api.Stroke{}) {
		t.Errorf("Block of %d instructions at %d answers %+v, %v", len(p), at, s, err)
	}
}

// P14.1: programs that are not formed, ahead of all else.
func TestNotFormed(t *testing.T) {
	halt := prog("halt")
	wrong := []api.Instr{{}, {Op: 18}, {Op: -1}, {Op: math.MaxInt}, {Op: math.MinInt}, {Op: api.OpHalt, N: 1}, {Op: api.OpBegin, A: 1},
		{Op: api.OpAdd, C: 8}, {Op: api.OpAdd, B: -1}, {Op: api.OpGet, A: 8}, {Op: api.OpGet, C: 1}, {Op: api.OpEnd, N: 7}, {Op: api.OpConst, B: 1}}
	for _, at := range []int{math.MinInt, -1, 0, 1, 2, 300, math.MaxInt} {
		refusedBlock(t, nil, at, api.ErrCode)
		refusedBlock(t, []api.Instr{}, at, api.ErrCode)
		refusedBlock(t, append(prog("begin | end"), slices.Repeat(halt, 255)...), at, api.ErrCode)
		for _, i := range wrong {
			refusedBlock(t, append(prog("begin | end | halt"), i), at, api.ErrCode)
			refusedBlock(t, append([]api.Instr{i}, prog("begin | end | halt")...), at, api.ErrCode)
		}
	}
	long := append(prog("begin | end"), slices.Repeat(halt, 254)...)
	if s, err := Block(long, 0, [8]uint64{}, nil); err != api.OK || !sameStroke(s, api.Stroke{At: 2, Kind: api.Committed, Fuel: 1}) {
		t.Errorf("of 256 instructions: %+v, %v", s, err)
	}
}

// P14.1: places where no begin stands.
func TestNoBegin(t *testing.T) {
	p := prog("const 0 1 | begin | get 0 1 | end | halt | begin | abort 0")
	for _, at := range []int{math.MinInt, -1, 0, 2, 3, 4, 6, 7, 8, 255, 256, math.MaxInt} {
		refusedBlock(t, p, at, api.ErrArg)
	}
	for _, at := range []int{1, 5} {
		if s, err := Block(p, at, [8]uint64{}, []uint64{5}); err != api.OK || s.Kind == 0 {
			t.Errorf("at %d: %+v, %v", at, s, err)
		}
	}
	// A program that may not run has blocks as well, and a begin may be the last of its instructions.
	if s, err := Block(prog("halt | begin"), 1, [8]uint64{}, []uint64{5}); err != api.OK || !sameStroke(s, api.Stroke{At: 1, Kind: api.Failed, Err: api.ErrPlace}) {
		t.Errorf("%+v, %v", s, err)
	}
}

// P14.1: blocks that commit, abort and fail, by hand.
func TestBlocks(t *testing.T) {
	regs := [8]uint64{0: 3, 1: 1, 2: 2, 3: 9, 7: top}
	with := func(changes ...uint64) [8]uint64 {
		r := regs
		for n := 0; n < len(changes); n += 2 {
			r[changes[n]] = changes[n+1]
		}
		return r
	}
	read := func(l ...api.Entry) []api.Entry { return l }
	wrote := func(l ...api.Cell) []api.Cell { return l }
	five, own := api.Entry{Addr: 1, Word: 50}, func(addr, word uint64) api.Entry { return api.Entry{Addr: addr, Word: word, Own: true} }
	for _, x := range []struct {
		text string
		want api.Stroke
	}{
		{"begin | end", api.Stroke{Regs: regs, At: 2, Kind: api.Committed, Fuel: 1}},
		{"begin | get 4 1 | end", api.Stroke{Reads: read(five), Regs: with(4, 50), At: 3, Kind: api.Committed, Fuel: 2}},
		{"begin | get 1 1 | end", api.Stroke{Reads: read(five), Regs: with(1, 50), At: 3, Kind: api.Committed, Fuel: 2}},
		{"begin | get 4 1 | get 5 1 | end", api.Stroke{Reads: read(five, five), Regs: with(4, 50, 5, 50), At: 4, Kind: api.Committed, Fuel: 3}},
		{"begin | put 0 1 | end", api.Stroke{Writes: wrote(api.Cell{Addr: 1, Word: 3}), Regs: regs, At: 3, Kind: api.Committed, Fuel: 2}},
		{"begin | put 0 1 | put 3 2 | put 7 1 | get 4 1 | end", api.Stroke{Reads: read(own(1, top)), Writes: wrote(api.Cell{Addr: 1, Word: top}, api.Cell{Addr: 2, Word: 9}), Regs: with(4, top), At: 6, Kind: api.Committed, Fuel: 5}},
		{"begin | get 4 1 | put 0 1 | get 5 1 | end", api.Stroke{Reads: read(five, own(1, 3)), Writes: wrote(api.Cell{Addr: 1, Word: 3}), Regs: with(4, 50, 5, 3), At: 5, Kind: api.Committed, Fuel: 4}},
		{"begin | const 4 7 | move 5 4 | sub 6 1 2 | mul 7 7 7 | less 0 1 2 | equal 2 1 1 | add 1 3 3 | end", api.Stroke{Regs: [8]uint64{1, 18, 1, 9, 7, 7, top, 1}, At: 9, Kind: api.Committed, Fuel: 8}},
		{"begin | less 4 2 1 | less 5 1 1 | equal 6 1 2 | less 7 1 7 | end", api.Stroke{Regs: with(7, 1), At: 6, Kind: api.Committed, Fuel: 5}},
		{"begin | zero 4 4 | end | halt | zero 1 3 | jump 2", api.Stroke{Regs: regs, At: 3, Kind: api.Committed, Fuel: 4}},
		{"begin | get 4 1 | put 0 1 | get 3 1 | const 0 8 | abort 0", api.Stroke{Reads: read(five, own(1, 3)), Writes: wrote(api.Cell{Addr: 1, Word: 3}), Regs: regs, At: 0, Kind: api.Aborted, Fuel: 5}},
		{"begin | abort 1", api.Stroke{Regs: regs, At: 1, Kind: api.Aborted, Fuel: 1}},
		{"begin | abort 2", api.Stroke{Regs: regs, At: 2, Kind: api.Aborted, Fuel: 1}},
		{"begin | abort 9223372036854775807", api.Stroke{Regs: regs, At: math.MaxInt, Kind: api.Aborted, Fuel: 1}},
		{"begin | abort 9223372036854775808", api.Stroke{Regs: regs, At: math.MaxInt, Kind: api.Aborted, Fuel: 1}},
		{"begin | abort 18446744073709551615", api.Stroke{Regs: regs, At: math.MaxInt, Kind: api.Aborted, Fuel: 1}},
		{"begin | abort 9223372036854775806", api.Stroke{Regs: regs, At: math.MaxInt - 1, Kind: api.Aborted, Fuel: 1}},
		{"begin | get 4 1 | put 0 2 | const 0 8 | get 5 0 | end", api.Stroke{Reads: read(five), Writes: wrote(api.Cell{Addr: 2, Word: 3}), Regs: regs, Kind: api.Failed, Err: api.ErrRange, Fuel: 4}},
		{"begin | get 4 1 | put 0 2 | const 0 8 | put 5 0 | end", api.Stroke{Reads: read(five), Writes: wrote(api.Cell{Addr: 2, Word: 3}), Regs: regs, Kind: api.Failed, Err: api.ErrRange, Fuel: 4}},
		{"begin | get 4 7 | end", api.Stroke{Regs: regs, Kind: api.Failed, Err: api.ErrRange, Fuel: 1}},
		{"begin | put 4 7 | end", api.Stroke{Regs: regs, Kind: api.Failed, Err: api.ErrRange, Fuel: 1}},
		{"begin | get 4 0 | end", api.Stroke{Regs: regs, Kind: api.Failed, Err: api.ErrRange, Fuel: 1}},
		{"begin | get 4 1 | put 0 2 | halt", api.Stroke{Reads: read(five), Writes: wrote(api.Cell{Addr: 2, Word: 3}), Regs: regs, Kind: api.Failed, Err: api.ErrPlace, Fuel: 2}},
		{"begin | load 4 1", api.Stroke{Regs: regs, Kind: api.Failed, Err: api.ErrPlace}},
		{"begin | store 4 1", api.Stroke{Regs: regs, Kind: api.Failed, Err: api.ErrPlace}},
		{"begin | begin", api.Stroke{Regs: regs, Kind: api.Failed, Err: api.ErrPlace}},
		{"begin | const 0 1", api.Stroke{Regs: regs, Kind: api.Failed, Err: api.ErrPlace, Fuel: 1}},
		{"begin | jump 9223372036854775807", api.Stroke{Regs: regs, Kind: api.Failed, Err: api.ErrPlace, Fuel: 1}},
		{"begin | jump 18446744073709551615", api.Stroke{Regs: regs, Kind: api.Failed, Err: api.ErrPlace, Fuel: 1}},
		{"begin | zero 4 18446744073709551615", api.Stroke{Regs: regs, Kind: api.Failed, Err: api.ErrPlace, Fuel: 1}},
		{"begin | jump 0", api.Stroke{Regs: regs, Kind: api.Failed, Err: api.ErrPlace, Fuel: 1}},
	} {
		if s, err := Block(prog(x.text), 0, regs, []uint64{40, 50, 60}); err != api.OK || !sameStroke(s, x.want) {
			t.Errorf("%s:\n%+v, %v, not\n%+v", x.text, s, err, x.want)
		}
	}
}

// P14.1: behind Failed the thread is at the begin, wherever that is.
func TestFailedAtItsBegin(t *testing.T) {
	for at := range 5 {
		p := append(slices.Repeat(prog("halt"), at), prog("begin | const 0 9 | get 0 0 | end")...)
		if s, err := Block(p, at, [8]uint64{5}, []uint64{1}); err != api.OK || !sameStroke(s, api.Stroke{Regs: [8]uint64{5}, At: at, Kind: api.Failed, Err: api.ErrRange, Fuel: 2}) {
			t.Errorf("%+v, %v", s, err)
		}
	}
}

// P14.1: the read log at its bound and one past it: what is read out of the redo log is none of it.
func TestReadsAtTheBound(t *testing.T) {
	words := make([]uint64, 2)
	words[0] = 5
	gets := func(n int, behind string) []api.Instr { // eight at a time, and what is left over
		p := prog("begin")
		for range n % 8 {
			p = append(p, prog("get 0 1")...)
		}
		loop := len(p)
		p = append(p, prog("zero 7 0 | sub 7 7 6 | get 0 1 | get 0 1 | get 0 1 | get 0 1 | get 0 1 | get 0 1 | get 0 1 | get 0 1")...)
		p = append(p, api.Instr{Op: api.OpJump, N: uint64(loop)})
		p[loop].N = uint64(len(p))
		return append(p, prog(behind)...)
	}
	for _, x := range []struct {
		n      int
		behind string
		kind   api.EventKind
		err    api.Errno
		reads  int
	}{
		{1023, "end", api.Committed, 0, 1023},
		{1024, "end", api.Committed, 0, 1024},
		{1025, "end", api.Failed, api.ErrFull, 1024},
		{1023, "get 2 1 | get 3 1 | end", api.Failed, api.ErrFull, 1024},
		{1024, "put 0 1 | get 2 1 | get 2 1 | end", api.Committed, 0, 1026},
		{1024, "put 0 1 | get 2 1 | get 2 6 | end", api.Failed, api.ErrFull, 1025},
		{1024, "get 0 0 | end", api.Failed, api.ErrRange, 1024}, // no cell ahead of no room
		{1024, "abort 0", api.Aborted, 0, 1024},
	} {
		s, err := Block(gets(x.n, x.behind), 0, [8]uint64{6: 1, 7: uint64(x.n / 8)}, words)
		if err != api.OK || s.Kind != x.kind || s.Err != x.err || len(s.Reads) != x.reads {
			t.Errorf("%d gets, %s: %v, %v, %v, %d reads", x.n, x.behind, err, s.Kind, s.Err, len(s.Reads))
		}
	}
}

// P14.1: the redo log at its bound and one past it.
func TestWritesAtTheBound(t *testing.T) {
	puts := func(behind string) []api.Instr { // four addresses at a time
		p := prog("begin | zero 7 0 | sub 7 7 6 | put 6 1 | add 1 1 6 | put 6 1 | add 1 1 6 | put 6 1 | add 1 1 6 | put 6 1 | add 1 1 6 | jump 1")
		p[1].N = uint64(len(p))
		return append(p, prog(behind)...)
	}
	for _, x := range []struct {
		n      uint64
		behind string
		kind   api.EventKind
		err    api.Errno
		writes int
	}{
		{255, "end", api.Committed, 0, 1020},
		{256, "end", api.Committed, 0, 1024},
		{257, "end", api.Failed, api.ErrFull, 1024},
		{256, "put 6 1 | end", api.Failed, api.ErrFull, 1024},
		{256, "sub 1 1 6 | put 0 1 | end", api.Committed, 0, 1024}, // a further word for an address that is in it
		{256, "move 1 0 | put 7 1 | get 2 1 | end", api.Committed, 0, 1024},
		{256, "const 1 2000 | put 6 1 | end", api.Failed, api.ErrRange, 1024}, // no cell ahead of no room
		{255, "put 6 1 | add 1 1 6 | put 6 1 | put 6 1 | put 7 1 | end", api.Committed, 0, 1022},
	} {
		s, err := Block(puts(x.behind), 0, [8]uint64{6: 1, 7: x.n}, make([]uint64, 2000))
		if err != api.OK || s.Kind != x.kind || s.Err != x.err || len(s.Writes) != x.writes {
			t.Errorf("%d puts, %s: %v, %v, %v, %d writes", 4*x.n, x.behind, err, s.Kind, s.Err, len(s.Writes))
		}
		for n, c := range s.Writes {
			if c.Addr != uint64(n) {
				t.Fatalf("%s: the write %d is %v", x.behind, n, c)
			}
		}
	}
}

// P14.1: fuel at its bound and one past it; what is misplaced is so ahead of what is too many.
func TestFuelAtTheBound(t *testing.T) {
	for _, n := range []uint64{4093, 4094, 4095, 4096, 4097} {
		// n instructions of the block ahead of the last one: three a round, and what is left over.
		rest := int((n - 1) % 3)
		p := prog("begin")
		for range rest {
			p = append(p, prog("move 0 0")...)
		}
		loop := uint64(len(p))
		p = append(p, api.Instr{Op: api.OpZero, A: 7, N: loop + 3}, api.Instr{Op: api.OpSub, A: 7, B: 7, C: 6}, api.Instr{Op: api.OpJump, N: loop})
		p = append(p, prog("end")...)
		regs := [8]uint64{6: 1, 7: (n - 1) / 3}
		s, err := Block(p, 0, regs, nil)
		want := api.Stroke{Regs: [8]uint64{6: 1}, At: len(p), Kind: api.Committed, Fuel: int(n) + 1}
		if n+1 > 4096 {
			want = api.Stroke{Regs: regs, Kind: api.Failed, Err: api.ErrFuel, Fuel: 4096}
		}
		if err != api.OK || !sameStroke(s, want) {
			t.Errorf("%d instructions: %+v, %v", n+1, s, err)
		}
	}
	for _, x := range []struct {
		last string
		want api.Errno
	}{{"halt", api.ErrPlace}, {"begin", api.ErrPlace}, {"load 0 0", api.ErrPlace}, {"jump 18446744073709551615", api.ErrFuel}, {"get 0 5", api.ErrFuel}, {"abort 0", api.ErrFuel}, {"end", api.ErrFuel}} {
		// 4096 instructions of the block ahead of the last one: rounds of 3, the last zero, and the rest.
		rounds := uint64(4095 / 3)
		p := prog("begin | zero 7 4 | sub 7 7 6 | jump 1")
		p = append(p, prog(x.last)...)
		s, err := Block(p, 0, [8]uint64{5: 9, 6: 1, 7: rounds}, []uint64{1})
		if err != api.OK || s.Kind != api.Failed || s.Err != x.want || s.Fuel != 4096 || s.Regs != ([8]uint64{5: 9, 6: 1, 7: rounds}) || s.At != 0 {
			t.Errorf("%s: %+v, %v", x.last, s, err)
		}
	}
}

// P14.1: words may be none, and more than a script may have cells.
func TestAnyNumberOfWords(t *testing.T) {
	p := prog("begin | get 0 1 | put 1 1 | end")
	for _, n := range []int{0, 1, 65535, 65536, 65537, 70000} {
		words := make([]uint64, n)
		for _, addr := range []int{n - 1, n, n + 1} {
			s, err := Block(p, 0, [8]uint64{1: uint64(addr)}, words)
			if has := addr >= 0 && addr < n; err != api.OK || (s.Kind == api.Committed) != has || (s.Err == api.ErrRange) == has {
				t.Errorf("the cell %d of %d: %+v, %v", addr, n, s, err)
			}
		}
	}
}

// P14.1: drawn programs, those that may not run among them, at all places against the model.
func TestAgainstTheModel(t *testing.T) {
	draw := drawn(1)
	counts := map[api.EventKind]int{}
	errs := map[api.Errno]int{}
	for range 15000 {
		p := draw.wild(1 + draw.below(14))
		words := make([]uint64, draw.below(4))
		for n := range words {
			words[n] = uint64(draw.below(4))
		}
		regs := [8]uint64{uint64(draw.below(3)), uint64(draw.below(3)), uint64(draw.below(3)), 7: draw.next()}
		for at := range p {
			s, err := Block(p, at, regs, words)
			if p[at].Op != api.OpBegin {
				if err != api.ErrArg || !sameStroke(s, api.Stroke{}) {
					t.Fatalf("%v at %d: %+v, %v", p, at, s, err)
				}
				continue
			}
			want, _ := modelBlock(p, at, regs, words)
			if err != api.OK || !sameStroke(s, want) {
				t.Fatalf("%v at %d over %v:\n%+v, %v, not\n%+v", p, at, words, s, err, want)
			}
			counts[s.Kind]++
			errs[s.Err]++
		}
	}
	if counts[api.Committed] < 300 || counts[api.Aborted] < 300 || errs[api.ErrRange] < 300 || errs[api.ErrPlace] < 300 || errs[api.ErrFuel] < 30 {
		t.Errorf("%v, %v", counts, errs)
	}
}

// P14.1: a block is what a thread of layer 11 does alone from that begin on.
func TestAsAThreadAlone(t *testing.T) {
	draw := drawn(2)
	for range 1500 {
		p := draw.wild(1 + draw.below(10))
		at := slices.IndexFunc(p, func(i api.Instr) bool { return i.Op == api.OpBegin })
		if at < 0 {
			continue
		}
		words := []uint64{uint64(draw.below(3)), 1, 2}[:1+draw.below(3)]
		regs := [8]uint64{uint64(draw.below(3)), uint64(draw.below(3)), 1}
		row, _ := cells.Of(words...)
		x, err := stepwise.From(api.Thread{Status: api.Running, At: at, Regs: regs}, p, row, seq.New())
		if err != api.OK {
			t.Fatal(err)
		}
		var reads []api.Entry
		var last api.Event
		for last.Kind != api.Committed && last.Kind != api.Aborted && last.Kind != api.Failed {
			if last, _, _ = x.Step(); last.Kind == api.Read {
				reads = append(reads, api.Entry{Addr: last.Addr, Word: last.Word, Own: last.Own})
			}
		}
		s, errno := Block(p, at, regs, words)
		end := x.State()
		if errno != api.OK || !slices.Equal(s.Reads, reads) || s.Kind != last.Kind || s.Err != last.Err || s.Regs != end.Regs || s.At != end.At {
			t.Fatalf("%v at %d:\n%+v, %v, not\n%+v, %v", p, at, s, errno, end, last)
		}
		if s.Kind == api.Committed {
			for _, c := range s.Writes {
				words[c.Addr] = c.Word
			}
		}
		if !slices.Equal(words, row.Words()) {
			t.Fatalf("%v: the cells are %v, not %v", p, words, row.Words())
		}
	}
}
