package plain

import (
	"math"
	"slices"
	"testing"

	"parley/api"
	"parley/code"
	"parley/sched"
)

// roomy is a list with spare room behind it.
func roomy[T any](l []T, spare T) []T {
	r := append(slices.Clone(l), spare, spare, spare)
	return r[:len(l)]
}

// whole is a list with its spare room.
func whole[T any](l []T) []T { return l[:cap(l)] }

// P14.6: Block does not change what is handed in, and done twice it is the same; its answers are new memory.
func TestBlockChangesNothing(t *testing.T) {
	draw := drawn(11)
	for range 2000 {
		p := roomy(draw.wild(1+draw.below(12)), api.Instr{Op: api.OpEnd})
		words := roomy([]uint64{1, 0, 2}[:draw.below(4)], 77)
		oldP, oldWords := slices.Clone(whole(p)), slices.Clone(whole(words))
		regs := [8]uint64{1, 0, 2}
		for at := range p {
			a, errA := Block(p, at, regs, words)
			b, errB := Block(p, at, regs, words)
			if errA != errB || !sameStroke(a, b) {
				t.Fatalf("once %+v, %v, then %+v, %v", a, errA, b, errB)
			}
			for n := range whole(a.Reads) {
				whole(a.Reads)[n] = api.Entry{Addr: 99, Word: 99}
			}
			for n := range whole(a.Writes) {
				whole(a.Writes)[n] = api.Cell{Addr: 98, Word: 98}
			}
			if want, _ := Block(p, at, regs, words); !sameStroke(b, want) {
				t.Fatalf("%+v is %+v behind a change of another answer", want, b)
			}
			if slices.Contains(whole(a.Reads), api.Entry{Addr: 98, Word: 98}) {
				t.Fatal("Reads and Writes share memory")
			}
		}
		if !slices.Equal(whole(p), oldP) || !slices.Equal(whole(words), oldWords) {
			t.Fatalf("%v, %v were changed", p, words)
		}
	}
}

// P14.6: the words behind a block that committed are those ahead with its Writes over them; behind another one they are the same. Its events are Block's own.
func TestWordsBehindABlock(t *testing.T) {
	draw := drawn(12)
	counts := map[api.EventKind]int{}
	for range 1500 {
		s := draw.script(true)
		m := made(t, s)
		for range 40 {
			n := draw.below(len(s.Programs))
			th, _ := m.Thread(n)
			ahead, commits := m.Words(), m.Commits()
			at := s.Programs[n][th.At]
			l := step(t, m, n)
			if th.Status != api.Running || at.Op != api.OpBegin {
				if m.Commits() != commits {
					t.Fatalf("a commit without a block: %v", l)
				}
				continue
			}
			stroke, err := Block(s.Programs[n], th.At, th.Regs, ahead)
			if err != api.OK {
				t.Fatal(err)
			}
			if stroke.Kind == api.Committed {
				for _, c := range stroke.Writes {
					ahead[c.Addr] = c.Word
				}
				commits += uint64(min(len(stroke.Writes), 1))
			}
			behind, _ := m.Thread(n)
			if !slices.Equal(m.Words(), ahead) || m.Commits() != commits || behind.Regs != stroke.Regs || behind.At != stroke.At || behind.Err != stroke.Err {
				t.Fatalf("%+v: %v, %d, %+v", stroke, m.Words(), m.Commits(), behind)
			}
			counts[stroke.Kind]++
			if last := l[len(l)-1]; last.Kind != stroke.Kind || last.Err != stroke.Err {
				t.Fatalf("%+v: %v", stroke, l)
			}
		}
	}
	if counts[api.Committed] < 1000 || counts[api.Aborted] < 100 || counts[api.Failed] < 100 {
		t.Error(counts)
	}
}

// apart is a program that touches the cells from base on alone: its addresses stand in registers that nothing else sets.
func (d *drawn) apart(base uint64) []api.Instr {
	p := []api.Instr{{Op: api.OpConst, A: 6, N: base}, {Op: api.OpConst, A: 7, N: base + 1}}
	for range 3 {
		for range d.below(4) {
			op := []api.Op{api.OpConst, api.OpAdd, api.OpMul, api.OpLoad, api.OpStore}[d.below(5)]
			p = append(p, d.over(op))
		}
		p = append(p, api.Instr{Op: api.OpBegin})
		for range 1 + d.below(5) {
			op := []api.Op{api.OpGet, api.OpGet, api.OpPut, api.OpPut, api.OpAdd, api.OpSub}[d.below(6)]
			p = append(p, d.over(op))
		}
		last := api.Instr{Op: api.OpEnd}
		if d.below(5) == 0 {
			last = api.Instr{Op: api.OpAbort, N: uint64(len(p) + 1)}
		}
		p = append(p, last)
	}
	return append(p, api.Instr{Op: api.OpHalt})
}

// over is an instruction whose address is in the registers 6 or 7.
func (d *drawn) over(op api.Op) api.Instr {
	i := d.instr(op, 0)
	if form, _ := code.Info(op); form.Regs == 2 {
		i.B = 6 + d.below(2)
	}
	return i
}

// P14.6: where no two threads touch the same cell, the order of picks of unlike threads makes no difference to any thread, nor to the cells.
func TestOrderOfPicks(t *testing.T) {
	draw := drawn(13)
	changed := 0
	for range 600 {
		threads := 2 + draw.below(3)
		s := api.Script{Cells: 2 * threads}
		for n := range s.Cells {
			s.First = append(s.First, uint64(n+1))
		}
		for n := range threads {
			s.Programs = append(s.Programs, draw.apart(uint64(2*n)))
		}
		a, b := made(t, s), made(t, s)
		list := draw.list(draw.below(60))
		told := picks(t, a, list...)
		for range 3 * len(list) { // neighbours of unlike threads change their places
			n := draw.below(len(list))
			if n > 0 {
				list[n-1], list[n] = list[n], list[n-1]
			}
		}
		other := picks(t, b, list...)
		if !slices.Equal(told, other) {
			changed++
		}
		if !slices.Equal(a.Words(), b.Words()) || a.Commits() != b.Commits() {
			t.Fatalf("%v, %d, and %v, %d", a.Words(), a.Commits(), b.Words(), b.Commits())
		}
		for n := range threads {
			x, _ := a.Thread(n)
			y, _ := b.Thread(n)
			if x.Status != y.Status || x.Regs != y.Regs || x.At != y.At || x.Err != y.Err {
				t.Fatalf("%+v and %+v", x, y)
			}
		}
	}
	if changed < 300 {
		t.Errorf("of all orders %d were unlike", changed)
	}
}

// P14.3: of threads that go on one behind the other layer 12 tells the same, but for what an attempt does within its block.
func TestAsRunsOneByOne(t *testing.T) {
	draw := drawn(14)
	for range 800 {
		s := draw.script(true)
		m, err := New(s)
		if err != api.OK {
			t.Fatal(err)
		}
		d, err := sched.New(s)
		if err != api.OK {
			t.Fatal(err)
		}
		var told []api.Event
		for n := range s.Programs {
			for range 40 { // a step here, and so many there as bring that thread outside again
				told = append(told, step(t, m, n)...)
				d.Alone(n, 1)
				for d.Outcome().Threads[n].Inside {
					d.Alone(n, 1)
				}
			}
		}
		o := d.Outcome()
		want := slices.DeleteFunc(o.Events, func(e api.Event) bool { return e.Kind == api.Locked })
		if !slices.Equal(told, want) || !slices.Equal(m.Words(), o.Cells) || m.Commits() != o.Clock/2 {
			t.Fatalf("%v, %v, not %v, %v", told, m.Words(), want, o.Cells)
		}
		for n, th := range o.Threads {
			if got, _ := m.Thread(n); got.Status != th.Status || got.Err != th.Err || got.At != th.At || got.Regs != th.Regs || got.Inside {
				t.Fatalf("%+v, not %+v", got, th)
			}
		}
	}
}

// What is handed in stays, and is not kept; answers are new memory.
func TestMemory(t *testing.T) {
	fresh := func() api.Script {
		s := script(3, roomy([]uint64{5, 6}, 77), doubles, "load 0 1 | store 0 1 | halt")
		s.Programs[0], s.Programs[1] = roomy(s.Programs[0], api.Instr{Op: 77}), roomy(s.Programs[1], api.Instr{Op: 77})
		s.Programs = roomy(s.Programs, nil)
		s.Picks = roomy([]uint32{0, 1, 1, 0}, 77)
		return s
	}
	s := fresh()
	l, w, _ := Run(s)
	m := made(t, s)
	list := roomy([]uint32{0, 1, 1}, 77)
	told := picks(t, m, list...)
	if !slices.Equal(whole(s.First), whole(fresh().First)) || !slices.Equal(whole(s.Picks), whole(fresh().Picks)) || !slices.Equal(whole(list)[:6], []uint32{0, 1, 1, 77, 77, 77}) {
		t.Error("lists were changed")
	}
	for n := range s.Programs {
		if !slices.Equal(whole(s.Programs[n]), whole(fresh().Programs[n])) {
			t.Error("a program was changed")
		}
	}
	want, twin := m.Words(), made(t, fresh())
	picks(t, twin, 0, 1, 1)
	for n := range whole(s.First) {
		whole(s.First)[n] = 88
	}
	for _, p := range s.Programs {
		for n := range whole(p) {
			whole(p)[n] = api.Instr{Op: api.OpJump}
		}
	}
	for n := range whole(list) {
		whole(list)[n] = math.MaxUint32
	}
	spoilt := m.Words()
	for _, x := range [][]uint64{spoilt, w} {
		for n := range whole(x) {
			whole(x)[n] = 99
		}
	}
	for _, x := range [][]api.Event{told, l} {
		for n := range whole(x) {
			whole(x)[n] = api.Event{Thread: 99}
		}
	}
	if !slices.Equal(m.Words(), want) {
		t.Errorf("%v, not %v", m.Words(), want)
	}
	for _, n := range []int{0, 1, 0, 1} {
		if x, y := step(t, m, n), step(t, twin, n); !slices.Equal(x, y) {
			t.Errorf("%v, not %v", x, y)
		}
	}
	if again, words, _ := Run(fresh()); len(again) != 8 || !slices.Equal(words, []uint64{10, 6, 0}) {
		t.Errorf("%v, %v", again, words)
	}
}
