package witness

import (
	"fmt"
	"slices"
	"strings"
	"testing"

	"parley/api"
)

// adds adds 1 to the cell 0; reads reads it.
const (
	adds  = "begin | get 0 1 | const 2 1 | add 0 0 2 | put 0 1 | end | halt"
	reads = "begin | get 0 1 | end | halt"
)

// start is a thread at its beginning.
func start() api.Thread { return api.Thread{Status: api.Running} }

// behind is a thread that goes on at a place with these registers.
func behind(at int, regs ...uint64) api.Thread {
	t := api.Thread{Status: api.Running, At: at}
	copy(t.Regs[:], regs)
	return t
}

// broken is a thread whose block failed.
func broken(err api.Errno, begin int, regs ...uint64) api.Thread {
	t := behind(begin, regs...)
	t.Status, t.Err = api.Broken, err
	return t
}

// P15.2: scripts that may not be, whatever the history.
func TestScriptsThatMayNotBe(t *testing.T) {
	fine := func() api.Script { return script(2, []uint64{5}, adds, adds) }
	for n, change := range []func(*api.Script){
		func(s *api.Script) { *s = api.Script{} },
		func(s *api.Script) { s.Cells = 0 },
		func(s *api.Script) { s.Cells = -1 },
		func(s *api.Script) { s.Cells = api.MaxCells + 1 },
		func(s *api.Script) { s.First = []uint64{1, 2, 3} },
		func(s *api.Script) { s.Programs = nil },
		func(s *api.Script) { s.Programs = slices.Repeat(s.Programs[1:], 9) },
		func(s *api.Script) { s.Programs[1] = nil },
		func(s *api.Script) { s.Programs[1] = prog("begin | halt") },
		func(s *api.Script) { s.Programs[0] = prog("get 0 0 | halt") },
		func(s *api.Script) { s.Picks = make([]uint32, api.MaxPicks+1) },
	} {
		s := fine()
		change(&s)
		for _, h := range [][]api.Event{nil, {{}}, hist("0 loaded 0 5"), hist("7 begin 0"), hist("0 begin 0, 0 read 0 5"), hist("0 begin 2")} {
			if p, err := Prove(s, h); err != api.ErrScript || !sameProof(p, api.Proof{}) {
				t.Errorf("%d: Prove of %v answers %+v, %v", n, h, p, err)
			}
		}
	}
}

// P15.2: histories that can't be, also such as have other threads and plain accesses, behind what can't be and ahead of it.
func TestProveOfWhatCanNotBe(t *testing.T) {
	s := script(2, []uint64{5}, adds)
	outside := hist("0 loaded 0 5, 7 begin 0, 6 failed 4, 5 stored 0 1, 7 aborted")
	for want, l := range impossible() {
		for _, h := range l {
			refuses(t, s, h, want)
			refuses(t, s, append(slices.Clone(outside), h...), want)
			refuses(t, s, append(slices.Clip(h), outside...), want)
		}
	}
}

// P15.2: threads that the script has not, by any event; plain accesses elsewhere come behind that.
func TestThreadsThatAreNot(t *testing.T) {
	for threads := 1; threads <= api.MaxThreads; threads++ {
		s := script(2, []uint64{5}, slices.Repeat([]string{adds}, threads)...)
		for at := range api.MaxThreads {
			for _, text := range []string{"begin 0", "halted", "failed 4", "loaded 0 5", "stored 0 5"} {
				for _, around := range []string{"%s", "0 loaded 0 5, %s", "%s, 0 stored 0 5", "0 begin 0, 0 aborted, %s"} {
					if around != "%s" && at == 0 {
						continue
					}
					h := hist(fmt.Sprintf(around, fmt.Sprintf("%d %s", at, text)))
					_, err := Prove(s, h)
					want := api.OK
					if at >= threads {
						want = api.ErrArg
					} else if text != "begin 0" && text != "halted" || strings.Contains(around, "ed 0 5") {
						want = api.ErrOutside
					}
					if err != want {
						t.Errorf("Prove of %s with %d threads answers %v, not %v", asText(h), threads, err, want)
					}
					if err != api.OK {
						refuses(t, s, h, want)
					}
				}
			}
		}
	}
}

// P15.2: plain accesses, ahead of blocks, between them, behind them, beside open ones; a Failed inside is none.
func TestPlainAccesses(t *testing.T) {
	s := script(2, []uint64{5}, adds, adds)
	for _, text := range []string{
		"0 loaded 0 5", "0 stored 0 5", "0 failed 4", "1 failed 4",
		"0 begin 0, 0 aborted, 0 loaded 0 5", "0 begin 0, 0 committed 0, 0 stored 0 5", "0 begin 0, 0 stale, 0 failed 4",
		"0 begin 0, 1 loaded 0 5", "0 begin 0, 1 failed 4", "0 begin 0, 1 stored 0 5, 0 failed 4",
		"0 begin 0, 0 failed 4, 1 failed 4", "0 loaded 0 5, 0 begin 0, 0 read 0 99, 0 committed 0", "0 loaded 9 9",
	} {
		refuses(t, s, hist(text), api.ErrOutside)
	}
	failing := script(1, nil, "const 1 9 | begin | get 0 1 | end | halt", "halt")
	proves(t, failing, hist("0 begin 0, 0 failed 4, 1 halted"), api.Proof{Order: []int{0}, Wrong: -1, Cells: []uint64{0}, Threads: []api.Thread{broken(api.ErrRange, 1, 0, 9), start()}})
}

// P15.2: histories that are proved: the order, the cells, each thread behind its last block that is over or at its beginning.
func TestProved(t *testing.T) {
	const aborts = "const 1 1 | begin | get 0 1 | put 1 1 | abort 5 | begin | get 3 1 | end | halt"
	for _, x := range []struct {
		s       api.Script
		text    string
		order   []int
		cells   []uint64
		threads []api.Thread
	}{
		{script(3, []uint64{5, 6}, adds, reads), "", nil, []uint64{5, 6, 0}, []api.Thread{start(), start()}},
		{script(1, []uint64{5}, adds, reads), "0 begin 0, 0 read 0 5, 0 write 0 6, 0 locked, 0 committed 1, 1 begin 2, 1 read 0 6, 1 committed 1, 0 halted, 1 halted", []int{0, 1},
			[]uint64{6}, []api.Thread{behind(6, 6, 0, 1), behind(3, 6)}},
		// The one that read alone saw the first words: it stands ahead of what was written while it was open.
		{script(1, []uint64{5}, adds, reads), "1 begin 0, 1 read 0 5, 0 begin 0, 0 read 0 5, 0 write 0 6, 0 locked, 0 committed 1, 1 committed 0", []int{0, 1},
			[]uint64{6}, []api.Thread{behind(6, 6, 0, 1), behind(3, 5)}},
		// What halts is not gone on with; what is between blocks is, but not what is behind the last one.
		{script(2, []uint64{4, 7}, aborts), "0 begin 0, 0 read 1 7, 0 write 1 1, 0 aborted", []int{0}, []uint64{4, 7}, []api.Thread{behind(5, 0, 1)}},
		{script(2, []uint64{4, 7}, aborts), "0 begin 0, 0 read 1 7, 0 write 1 1, 0 aborted, 0 begin 0, 0 read 1 7, 0 committed 0, 0 halted", []int{0, 1}, []uint64{4, 7}, []api.Thread{behind(8, 0, 1, 0, 7)}},
		{script(1, nil, "begin | end | const 0 3 | const 1 4 | begin | end | const 2 5 | halt"), "0 begin 0, 0 committed 0, 0 begin 0, 0 committed 0", []int{0, 1}, []uint64{0}, []api.Thread{behind(6, 3, 4)}},
		// Stale and open blocks are not looked at, and their threads stay behind the last one that is over, or at their beginning.
		{script(1, []uint64{5}, adds, adds, adds), "1 begin 0, 1 read 0 77, 0 begin 0, 0 read 0 5, 0 write 0 6, 0 locked, 0 committed 1, 1 stale, 1 begin 2, 1 read 0 99, 1 write 7 7, 1 locked, 2 halted", []int{1},
			[]uint64{6}, []api.Thread{behind(6, 6, 0, 1), start(), start()}},
		// A Moved is no matter of the machine's.
		{script(1, []uint64{5}, adds, adds), "1 begin 0, 0 begin 0, 0 read 0 5, 0 write 0 6, 0 locked, 0 committed 1, 1 moved 2, 1 read 0 6, 1 write 0 7, 1 locked, 1 committed 2", []int{1, 0},
			[]uint64{7}, []api.Thread{behind(6, 6, 0, 1), behind(6, 7, 0, 1)}},
		// What is read out of one's own writes is left out: told or not, and where reads and writes stand between one another.
		{script(2, []uint64{5}, "const 1 1 | begin | put 1 1 | get 2 1 | get 3 0 | end | halt"), "0 begin 0, 0 write 1 1, 0 own 1 1, 0 read 0 5, 0 locked, 0 committed 1", []int{0}, []uint64{5, 1}, []api.Thread{behind(6, 0, 1, 1, 5)}},
		{script(2, []uint64{5}, "const 1 1 | begin | put 1 1 | get 2 1 | get 3 0 | end | halt"), "0 begin 0, 0 read 0 5, 0 write 1 1, 0 locked, 0 committed 1", []int{0}, []uint64{5, 1}, []api.Thread{behind(6, 0, 1, 1, 5)}},
		// A block that writes what stood there, twice.
		{script(1, []uint64{5}, "begin | get 0 1 | put 1 1 | put 0 1 | end | halt"), "0 begin 0, 0 read 0 5, 0 write 0 0, 0 write 0 5, 0 locked, 0 committed 1", []int{0}, []uint64{5}, []api.Thread{behind(5, 5)}},
	} {
		proves(t, x.s, hist(x.text), api.Proof{Order: x.order, Wrong: -1, Cells: x.cells, Threads: x.threads})
	}
}

// P15.2: blocks that fail with each error: the thread is Broken, at its begin.
func TestFailed(t *testing.T) {
	full := "0 begin 0, " + strings.Repeat("0 read 0 5, ", api.MaxReads) + "0 failed 5"
	for _, x := range []struct {
		program, text string
		err           api.Errno
	}{
		{"const 0 3 | begin | get 1 2 | get 2 0 | end | halt", "0 begin 0, 0 read 0 5, 0 failed 4", api.ErrRange},
		{"const 0 3 | begin | put 0 2 | put 2 0 | end | halt", "0 begin 0, 0 write 0 3, 0 failed 4", api.ErrRange},
		{"const 0 3 | begin | get 1 2 | jump 2 | end | halt", full, api.ErrFull},
		{"const 0 3 | begin | jump 2 | end | halt", "0 begin 0, 0 failed 6", api.ErrFuel},
	} {
		s := script(1, []uint64{5}, x.program, "halt")
		h := hist(x.text)
		proves(t, s, h, api.Proof{Order: []int{0}, Wrong: -1, Cells: []uint64{5}, Threads: []api.Thread{broken(x.err, 1, 3), start()}})
		// Each other error, and each other end, is another one.
		last := &h[len(h)-1]
		for _, end := range []api.Event{{Kind: api.Failed, Err: api.ErrRange}, {Kind: api.Failed, Err: api.ErrFull}, {Kind: api.Failed, Err: api.ErrFuel}, {Kind: api.Aborted}} {
			if end.Err == x.err {
				continue
			}
			*last = end
			proves(t, s, h, api.Proof{Order: []int{0}})
		}
	}
}

// P15.2: histories that are not proved: the place of the first block that is not found so.
func TestNotProved(t *testing.T) {
	const two = "begin | get 2 0 | get 3 1 | put 2 1 | put 3 0 | end | halt"
	swaps := func(block string) string { return "0 begin 0, " + block + ", 0 locked, 0 committed 1" }
	s := script(2, []uint64{5, 6}, "const 1 1 | "+two, "begin | get 0 1 | abort 3 | halt", "begin | get 0 1 | end | halt", "halt")
	proves(t, s, hist(swaps("0 read 0 5, 0 read 1 6, 0 write 1 5, 0 write 0 6")), api.Proof{Order: []int{0}, Wrong: -1, Cells: []uint64{6, 5}, Threads: []api.Thread{behind(7, 0, 1, 5, 6), start(), start(), start()}})
	for _, block := range []string{
		"0 read 0 6, 0 read 1 6, 0 write 1 5, 0 write 0 6", // a read of another word
		"0 read 0 5, 0 read 1 5, 0 write 1 5, 0 write 0 6",
		"0 read 1 5, 0 read 1 6, 0 write 1 5, 0 write 0 6", // of another address
		"0 read 1 6, 0 read 0 5, 0 write 1 5, 0 write 0 6", // in another order
		"0 read 0 5, 0 write 1 5, 0 write 0 6",             // left out
		"0 write 1 5, 0 write 0 6",
		"0 read 0 5, 0 read 1 6, 0 read 1 6, 0 write 1 5, 0 write 0 6", // one more
		"0 read 0 5, 0 read 1 6, 0 write 1 6, 0 write 0 6",             // a write of another word
		"0 read 0 5, 0 read 1 6, 0 write 1 5, 0 write 0 5",
		"0 read 0 5, 0 read 1 6, 0 write 0 5, 0 write 0 6", // of another address
		"0 read 0 5, 0 read 1 6, 0 write 0 6, 0 write 1 5", // in another order
		"0 read 0 5, 0 read 1 6, 0 write 1 5",              // left out
		"0 read 0 5, 0 read 1 6, 0 write 1 5, 0 write 0 6, 0 write 0 6",
		"0 read 0 5, 0 read 1 6, 0 write 1 5, 0 write 0 9, 0 write 0 6", // one more, though the same stands there at last
		"0 read 0 5, 0 read 1 6, 0 read 9 0, 0 write 1 5, 0 write 0 6",  // of no cell
	} {
		proves(t, s, hist(swaps(block)), api.Proof{Order: []int{0}})
	}
	for _, text := range []string{
		"1 begin 0, 1 read 0 5, 1 committed 0", // it aborts
		"1 begin 0, 1 read 0 5, 1 failed 4",
		"1 begin 0, 1 aborted",              // not without a read
		"2 begin 0, 2 read 0 5, 2 aborted",  // it commits
		"2 begin 0, 2 read 0 5, 2 failed 6", // it does not fail
		"2 begin 0, 2 committed 0",          // not without a read
		"3 begin 0, 3 committed 0",          // it begins no block
		"3 begin 0, 3 aborted, 3 halted",    //
		"3 begin 0, 3 stale, 3 begin 0, 3 failed 4",
	} {
		order := []int{strings.Count(text, "begin") - 1}
		proves(t, s, hist(text), api.Proof{Order: order})
	}
}

// P15.2: which block is the first wrong one goes by the order; what is behind it is not looked at.
func TestFirstWrong(t *testing.T) {
	s := script(1, []uint64{5}, adds, adds, adds, reads)
	block := func(at int, word, number uint64) string {
		return fmt.Sprintf("%d begin %d, %d read 0 %d, %d write 0 %d, %d locked, %d committed %d, ", at, 2*number-2, at, word, at, word+1, at, at, number)
	}
	for _, x := range []struct {
		words [3]uint64
		last  uint64
		wrong int
	}{
		{[3]uint64{5, 6, 7}, 5, -1}, {[3]uint64{4, 6, 7}, 5, 1}, {[3]uint64{5, 7, 7}, 5, 2}, {[3]uint64{5, 6, 6}, 5, 3}, {[3]uint64{5, 6, 7}, 8, 0},
		{[3]uint64{4, 5, 6}, 5, 1}, {[3]uint64{5, 5, 5}, 5, 2}, {[3]uint64{6, 5, 4}, 0, 0},
	} {
		// The reader began ahead of all others, and ends behind them.
		h := hist("3 begin 0, " + fmt.Sprintf("3 read 0 %d, ", x.last) + block(2, x.words[0], 1) + block(0, x.words[1], 2) + block(1, x.words[2], 3) + "3 committed 0")
		want := api.Proof{Order: []int{0, 1, 2, 3}, Wrong: x.wrong}
		if x.wrong < 0 {
			want.Cells, want.Threads = []uint64{8}, []api.Thread{behind(6, 7, 0, 1), behind(6, 8, 0, 1), behind(6, 6, 0, 1), behind(3, 5)}
		}
		proves(t, s, h, want)
	}
}

// P15.2: a thread that halts, breaks by a plain access or goes round for ever ahead of the block that the history tells of.
func TestBeginsNone(t *testing.T) {
	for _, program := range []string{"halt", "jump 0", "const 0 1 | jump 0", "const 1 9 | load 0 1 | begin | end | halt", "const 1 9 | store 0 1 | begin | end | halt", "zero 0 3 | begin | end | halt"} {
		s := script(1, nil, program, "begin | end | jump 0")
		proves(t, s, hist("0 begin 0, 0 committed 0"), api.Proof{Order: []int{0}})
		proves(t, s, hist("1 begin 0, 1 committed 0, 0 begin 0, 0 committed 0, 1 begin 0, 1 committed 0"), api.Proof{Order: []int{0, 1, 2}, Wrong: 1})
	}
	// One block, and then none.
	s := script(1, nil, "begin | end | halt")
	proves(t, s, hist("0 begin 0, 0 committed 0, 0 begin 0, 0 committed 0"), api.Proof{Order: []int{0, 1}, Wrong: 1})
	failing := script(1, nil, "begin | abort 2 | halt", "begin | end | halt")
	proves(t, failing, hist("0 begin 0, 0 aborted, 0 begin 0, 0 committed 0, 1 begin 0, 1 committed 0"), api.Proof{Order: []int{0, 1, 2}, Wrong: 1})
}

// late is a program that does so many steps ahead of each of its blocks, and then begins anew.
func late(steps int) (program string, begin int) {
	lines := []string{"const 1 1"}
	for (steps-len(lines))%3 != 0 {
		lines = append(lines, "const 3 3")
	}
	loop := len(lines) + 1
	lines = append(lines, fmt.Sprintf("const 2 %d", (steps-len(lines))/3), "sub 2 2 1", fmt.Sprintf("zero 2 %d", loop+3), fmt.Sprintf("jump %d", loop))
	return strings.Join(append(lines, "begin", "get 0 4", "end", "jump 0"), " | "), loop + 3
}

// P15.2: a thread has its block, if it begins it within MaxPicks steps: by the last of these, too. They are counted anew for each block.
func TestBeginsLate(t *testing.T) {
	const once = "0 begin 0, 0 read 0 5, 0 committed 0"
	for _, x := range []struct {
		steps int
		text  string
		order []int
		wrong int
	}{
		{api.MaxPicks - 1, once, []int{0}, -1},
		{api.MaxPicks, once, []int{0}, 0},
		{api.MaxPicks + 1, once, []int{0}, 0},
		{api.MaxPicks - 2, once + ", " + once, []int{0, 1}, -1}, // the jump is a step, too
		{api.MaxPicks - 1, once + ", " + once, []int{0, 1}, 1},
	} {
		program, begin := late(x.steps)
		s := script(1, []uint64{5}, program)
		want := api.Proof{Order: x.order, Wrong: x.wrong}
		if x.wrong < 0 {
			th := behind(begin+3, 5, 1)
			if strings.Contains(program, "const 3 3") {
				th.Regs[3] = 3
			}
			want.Cells, want.Threads = []uint64{5}, []api.Thread{th}
		}
		proves(t, s, hist(x.text), want)
	}
}

// P15.2: plain accesses of the script that its history does not tell of are steps outside like others.
func TestPlainAccessesOfTheScript(t *testing.T) {
	s := script(2, []uint64{5}, "const 1 1 | load 0 2 | store 0 1 | begin | get 3 1 | end | store 1 1 | halt")
	proves(t, s, hist("0 begin 0, 0 read 1 5, 0 committed 0"), api.Proof{Order: []int{0}, Wrong: -1, Cells: []uint64{5, 5}, Threads: []api.Thread{behind(6, 5, 1, 0, 5)}})
	proves(t, s, hist("0 begin 0, 0 read 1 0, 0 committed 0"), api.Proof{Order: []int{0}})
	proves(t, s, nil, api.Proof{Wrong: -1, Cells: []uint64{5, 0}, Threads: []api.Thread{start()}})
}

// P15.2: at the limits of a script, and its picks are no matter.
func TestProveAtTheLimits(t *testing.T) {
	first := make([]uint64, api.MaxCells)
	first[api.MaxCells-1] = 9
	s := script(api.MaxCells, first, slices.Repeat([]string{"const 1 65535 | begin | get 0 1 | put 1 1 | end | halt"}, 8)...)
	s.Picks = make([]uint32, api.MaxPicks)
	h := hist("7 begin 0, 7 read 65535 9, 7 write 65535 65535, 7 locked, 7 committed 1, 0 begin 2, 0 read 65535 65535, 0 write 65535 65535, 0 locked, 0 committed 2")
	p, err := Prove(s, h)
	if err != api.OK || p.Wrong != -1 || len(p.Cells) != api.MaxCells || p.Cells[65535] != 65535 || p.Cells[0] != 0 || len(p.Threads) != 8 {
		t.Errorf("%v, %v", p.Wrong, err)
	}
	for n, th := range p.Threads {
		if over := n == 0 || n == 7; over != (th.At == 5) || !over && th.At != 0 {
			t.Errorf("thread %d stands at %+v", n, th)
		}
	}
	// As many reads and writes as logs have room for, in fewer instructions than an attempt has fuel for.
	fills := "const 3 1024 | const 4 1 | begin | " + strings.Repeat("sub 3 3 4 | get 0 3 | put 3 3 | ", 16) + "zero 3 53 | jump 3 | end | halt"
	text := "0 begin 0, "
	words := make([]uint64, 1025)
	for n := 1023; n >= 0; n-- {
		text += fmt.Sprintf("0 read %d 0, 0 write %d %d, ", n, n, n)
		words[n] = uint64(n)
	}
	proves(t, script(1025, nil, fills), hist(text+"0 locked, 0 committed 1"), api.Proof{Order: []int{0}, Wrong: -1, Cells: words, Threads: []api.Thread{behind(54, 0, 0, 0, 0, 1)}})
}

// P15.2: histories of runs with something changed, and drawn ones, against the model.
func TestProveAgainstTheModel(t *testing.T) {
	d := drawn(2)
	proved, wrong, late := 0, 0, 0
	ask := func(s api.Script, h []api.Event) {
		t.Helper()
		want := modelProve(s, h)
		proves(t, s, h, want)
		switch {
		case want.Wrong > 0:
			late++
			fallthrough
		case want.Wrong == 0:
			wrong++
		default:
			proved++
		}
	}
	for range 500 {
		s := d.script()
		h := run(t, s).Events
		ask(s, h)
		for range 6 {
			if other, can := d.changed(h); can {
				ask(s, other)
				if d.below(3) == 0 {
					h = other
				}
			}
		}
		ask(s, d.history(20, len(s.Programs), false))
	}
	if proved < 500 || wrong < 200 || late < 100 {
		t.Errorf("%d are proved, %d are not, %d of these behind the first block", proved, wrong, late)
	}
}

// P15.2: drawn histories with plain accesses and with threads that the script has not.
func TestRefusedAgainstTheModel(t *testing.T) {
	d := drawn(3)
	counts := map[api.Errno]int{}
	for range 600 {
		s := d.script()
		h := d.history(12, 1+d.below(8), d.below(2) == 0)
		want := api.OK
		if slices.ContainsFunc(h, func(e api.Event) bool { return e.Thread >= len(s.Programs) }) {
			want = api.ErrArg
		} else if modelOutside(h) {
			want = api.ErrOutside
		}
		if counts[want]++; want != api.OK {
			refuses(t, s, h, want)
			continue
		}
		proves(t, s, h, modelProve(s, h))
	}
	if counts[api.OK] < 30 || counts[api.ErrArg] < 100 || counts[api.ErrOutside] < 100 {
		t.Error(counts)
	}
}
