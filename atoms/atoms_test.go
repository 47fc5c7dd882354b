package atoms

import (
	"math"
	"runtime"
	"slices"
	"sync"
	"sync/atomic"
	"testing"
	"time"

	"parley/api"
)

const top = math.MaxUint64

var mixes = []api.Mix{api.MixAdd, api.MixMul, api.MixAnd, api.MixOr, api.MixXor, api.MixMax, api.MixMin}

var noMixes = []api.Mix{math.MinInt, -1, 0, 8, math.MaxInt}

// made makes cells, or ends the test.
func made(t *testing.T, cells int, first ...uint64) *Cells {
	t.Helper()
	c, err := New(cells, first...)
	if c == nil || err != api.OK {
		t.Fatalf("New(%d, %d words) is %v, %v", cells, len(first), c, err)
	}
	return c
}

// has asks for all words of cells.
func has(t *testing.T, c *Cells, words ...uint64) {
	t.Helper()
	if got := c.Words(); !slices.Equal(got, words) {
		t.Errorf("the words are %v, not %v", got, words)
	}
}

// errno asks for an error.
func errno(t *testing.T, what string, got, want api.Errno) {
	t.Helper()
	if got != want {
		t.Errorf("%s answers %v, not %v", what, got, want)
	}
}

// drawn is a row of numbers that looks drawn, and is the same each time.
type drawn uint64

func (d *drawn) next() uint64 {
	*d = *d*6364136223846793005 + 1442695040888963407
	return uint64(*d >> 33)
}

// below is a number from 0 to n - 1.
func (d *drawn) below(n int) int { return int(d.next() % uint64(n)) }

// word is small, great, or between.
func (d *drawn) word() uint64 {
	switch d.below(4) {
	case 0:
		return d.next() % 4
	case 1:
		return top - d.next()%4
	default:
		return d.next()<<40 ^ d.next()<<20 ^ d.next()
	}
}

// many does work by so many goroutines of the test's own, which begin when the last one has come, so that they meet.
func many(count int, work func(own int)) {
	var all sync.WaitGroup
	var come atomic.Int32
	for own := range count {
		all.Add(1)
		go func() {
			defer all.Done()
			for come.Add(1); int(come.Load()) < count; {
				runtime.Gosched()
			}
			work(own)
		}()
	}
	all.Wait()
}

func TestNew(t *testing.T) { // P2.1
	for _, n := range []int{math.MinInt, -1, 0, api.MaxCells + 1, math.MaxInt} {
		if c, err := New(n); c != nil || err != api.ErrArg {
			t.Errorf("New(%d) is %v, %v", n, c, err)
		}
	}
	words := make([]uint64, api.MaxCells+1)
	for i := range words {
		words[i] = top - uint64(i)
	}
	for _, n := range []int{1, 2, 3, api.MaxCells} {
		for _, first := range []int{0, 1, n - 1, n} {
			c := made(t, n, words[:first]...)
			if c.Len() != n {
				t.Errorf("New(%d): Len is %d", n, c.Len())
			}
			want := append(slices.Clone(words[:first]), make([]uint64, n-first)...)
			if !slices.Equal(c.Words(), want) {
				t.Errorf("New(%d, %d words) has other words", n, first)
			}
		}
		if c, err := New(n, words[:n+1]...); c != nil || err != api.ErrArg {
			t.Errorf("New(%d, %d words) is %v, %v", n, n+1, c, err)
		}
	}
	if c, err := New(0, words[:0]...); c != nil || err != api.ErrArg {
		t.Errorf("New(0) is %v, %v", c, err)
	}
}

func TestNewKeepsNothing(t *testing.T) {
	first := []uint64{1, 2, 3, 4}
	c := made(t, 3, first[:2]...)
	first[0], first[2] = 9, 9
	has(t, c, 1, 2, 0)
	c.Store(1, 8)
	c.Store(2, 8)
	if !slices.Equal(first, []uint64{9, 2, 9, 4}) {
		t.Errorf("what was handed in is %v", first)
	}
	words := c.Words()
	if cap(words) != len(words) {
		t.Errorf("Words has room for %d", cap(words))
	}
	words[0] = 77
	has(t, c, 1, 8, 8)
	c.Store(0, 5)
	if words[0] != 77 {
		t.Error("an answer has changed")
	}
}

func TestCellCalls(t *testing.T) { // P2.2
	c := made(t, 3, 5, 6, 7)
	for addr, want := range []uint64{5, 6, 7} {
		if word, err := c.Load(uint64(addr)); word != want || err != api.OK {
			t.Errorf("Load(%d) is %d, %v", addr, word, err)
		}
	}
	errno(t, "Store", c.Store(2, top), api.OK)
	has(t, c, 5, 6, top)
	if word, err := c.Swap(2, 8); word != top || err != api.OK {
		t.Errorf("Swap is %d, %v", word, err)
	}
	has(t, c, 5, 6, 8)
	if is, err := c.Cas(2, 7, 9); is || err != api.OK {
		t.Errorf("Cas of another word is %v, %v", is, err)
	}
	has(t, c, 5, 6, 8)
	if is, err := c.Cas(2, 8, 9); !is || err != api.OK {
		t.Errorf("Cas is %v, %v", is, err)
	}
	has(t, c, 5, 6, 9)
	if is, err := c.Cas(2, 9, 9); !is || err != api.OK {
		t.Errorf("Cas by the same word is %v, %v", is, err)
	}
	has(t, c, 5, 6, 9)
}

// calls are all calls of one cell, by what they answer but the error.
var calls = []struct {
	name string
	call func(c *Cells, addr uint64) (uint64, api.Errno)
}{
	{"Load", (*Cells).Load},
	{"Store", func(c *Cells, addr uint64) (uint64, api.Errno) { return 0, c.Store(addr, 9) }},
	{"Swap", func(c *Cells, addr uint64) (uint64, api.Errno) { return c.Swap(addr, 9) }},
	{"Cas", func(c *Cells, addr uint64) (uint64, api.Errno) {
		is, err := c.Cas(addr, 0, 9)
		if is {
			return 1, err
		}
		return 0, err
	}},
	{"Do", func(c *Cells, addr uint64) (uint64, api.Errno) { return c.Do(api.MixAdd, addr, 9) }},
	{"Do by none", func(c *Cells, addr uint64) (uint64, api.Errno) { return c.Do(0, addr, 9) }},
}

func TestNoSuchCell(t *testing.T) { // P2.2
	for _, call := range calls {
		for _, n := range []int{1, 2, api.MaxCells} {
			c := made(t, n)
			for _, addr := range []uint64{uint64(n), uint64(n) + 1, 1 << 32, 1 << 63, top} {
				if word, err := call.call(c, addr); word != 0 || err != api.ErrRange {
					t.Errorf("%s at %d of %d cells is %d, %v", call.name, addr, n, word, err)
				}
			}
			if !slices.Equal(c.Words(), make([]uint64, n)) {
				t.Errorf("%s at no cell has changed one", call.name)
			}
		}
	}
}

func TestLastCell(t *testing.T) { // P2.2
	for _, call := range calls[:5] {
		c := made(t, api.MaxCells)
		if _, err := call.call(c, api.MaxCells-1); err != api.OK {
			t.Errorf("%s at the last cell answers %v", call.name, err)
		}
		want := make([]uint64, api.MaxCells)
		if call.name != "Load" {
			want[api.MaxCells-1] = 9
		}
		if !slices.Equal(c.Words(), want) {
			t.Errorf("%s at the last cell leaves other words", call.name)
		}
	}
}

func TestNilCells(t *testing.T) { // P2.2
	for _, c := range []*Cells{nil, {}} {
		for _, call := range calls {
			for _, addr := range []uint64{0, 1, top} {
				if word, err := call.call(c, addr); word != 0 || err != api.ErrNil {
					t.Errorf("%s of no cells is %d, %v", call.name, word, err)
				}
			}
		}
		if c.Len() != 0 || c.Words() != nil {
			t.Errorf("Len and Words of no cells are %d, %v", c.Len(), c.Words())
		}
	}
}

// mixOf is Mix as api's words say it, by bits and comparisons.
func mixOf(op api.Mix, w, x uint64) uint64 {
	switch op {
	case api.MixAdd:
		return w - (0 - x)
	case api.MixMul:
		var product uint64
		for bit := range 64 {
			if x>>bit&1 == 1 {
				product += w << bit
			}
		}
		return product
	case api.MixAnd:
		return ^(^w | ^x)
	case api.MixOr:
		return ^(^w & ^x)
	case api.MixXor:
		return (w | x) - (w & x)
	case api.MixMax:
		if w < x {
			return x
		}
		return w
	case api.MixMin:
		if x < w {
			return x
		}
		return w
	}
	panic("no mix")
}

func TestDo(t *testing.T) { // P2.2
	words := []uint64{0, 1, 2, 3, 6, 12, 1 << 31, 1 << 32, 1<<63 - 1, 1 << 63, top - 1, top}
	for _, op := range mixes {
		for _, w := range words {
			for _, x := range words {
				c := made(t, 3, 4, w, 4)
				if ahead, err := c.Do(op, 1, x); ahead != w || err != api.OK {
					t.Errorf("Do(%d) of %d and %d is %d, %v", op, w, x, ahead, err)
				}
				has(t, c, 4, mixOf(op, w, x), 4)
			}
		}
	}
	for _, op := range noMixes {
		c := made(t, 1, 3)
		if ahead, err := c.Do(op, 0, 5); ahead != 0 || err != api.ErrArg {
			t.Errorf("Do(%d) is %d, %v", op, ahead, err)
		}
		if ahead, err := c.Do(op, 1, 5); ahead != 0 || err != api.ErrRange {
			t.Errorf("Do(%d) at no cell is %d, %v", op, ahead, err)
		}
		has(t, c, 3)
	}
}

// TestDoAtOnce: a step that another one comes in between is not lost, whichever of the seven it is.
func TestDoAtOnce(t *testing.T) { // P2.2
	const count, times = 16, 400
	for _, op := range mixes {
		first := []uint64{1, 1}
		if op == api.MixAnd || op == api.MixMin {
			first = []uint64{top, top}
		}
		c := made(t, 2, first...)
		var d drawn
		lists := make([][]uint64, count)
		want := slices.Clone(first)
		for own := range lists {
			for i := range times {
				word := d.word() | 1
				if op == api.MixAnd {
					word = ^(1 << d.below(64)) // so that bits are left
				}
				lists[own] = append(lists[own], word)
				want[i%2] = mixOf(op, want[i%2], word)
			}
		}
		many(count, func(own int) {
			for i, word := range lists[own] {
				c.Do(op, uint64(i%2), word)
			}
		})
		has(t, c, want...)
	}
}

// TestAheadIsGivenOnce: each word of a cell is ahead of just one Swap, or of just one Do.
func TestAheadIsGivenOnce(t *testing.T) { // P2.2
	const count, times = 8, 20000
	for _, step := range []func(c *Cells, word uint64) uint64{
		func(c *Cells, word uint64) uint64 {
			ahead, _ := c.Swap(0, word)
			return ahead
		},
		func(c *Cells, _ uint64) uint64 {
			ahead, _ := c.Do(api.MixAdd, 0, 1)
			return ahead
		},
		func(c *Cells, _ uint64) uint64 {
			for {
				ahead, _ := c.Load(0)
				if is, _ := c.Cas(0, ahead, ahead+1); is {
					return ahead
				}
			}
		},
	} {
		c := made(t, 1)
		seen := make([]atomic.Int32, count*times+1)
		many(count, func(own int) {
			for i := range times {
				seen[step(c, uint64(own*times+i+1))].Add(1)
			}
		})
		last, _ := c.Load(0)
		seen[last].Add(1)
		for word := range seen {
			if n := seen[word].Load(); n != 1 {
				t.Fatalf("the word %d was told %d times", word, n)
			}
		}
	}
}

func TestTickets(t *testing.T) { // P2.3
	for _, first := range []uint64{0, 1, 1 << 40, top - 1, top} {
		tickets := NewTickets(first)
		for i := range uint64(5) {
			if n := tickets.Given(); n != i {
				t.Errorf("from %d: Given is %d behind %d", first, n, i)
			}
			if ticket, err := tickets.Next(); ticket != first+i || err != api.OK {
				t.Errorf("from %d: ticket %d is %d, %v", first, i, ticket, err)
			}
		}
	}
	var zero Tickets
	for i := range uint64(3) {
		if ticket, err := zero.Next(); ticket != i || err != api.OK || zero.Given() != i+1 {
			t.Errorf("a zero Tickets' ticket %d is %d, %v; given %d", i, ticket, err, zero.Given())
		}
	}
	var none *Tickets
	if ticket, err := none.Next(); ticket != 0 || err != api.ErrNil || none.Given() != 0 {
		t.Errorf("a nil Tickets' ticket is %d, %v; given %d", ticket, err, none.Given())
	}
	a, b := NewTickets(3), NewTickets(3)
	a.Next()
	if ticket, _ := b.Next(); ticket != 3 {
		t.Errorf("two Tickets share: %d", ticket)
	}
}

func TestTicketsAtOnce(t *testing.T) { // P2.3
	const count, times = 16, 1000
	tickets := NewTickets(top - 99)
	seen := make([]atomic.Int32, count*times)
	many(count, func(int) {
		for range times {
			ticket, _ := tickets.Next()
			seen[ticket+100].Add(1) // going round
		}
	})
	for i := range seen {
		if seen[i].Load() != 1 {
			t.Fatalf("ticket %d was given %d times", i, seen[i].Load())
		}
	}
	if tickets.Given() != count*times {
		t.Errorf("Given is %d", tickets.Given())
	}
}

func TestFlag(t *testing.T) { // P2.4
	var f Flag
	steps := []struct {
		call func() bool
		want bool
	}{
		{f.IsSet, false}, {f.Clear, false}, {f.IsSet, false}, {f.Set, true}, {f.IsSet, true}, {f.Set, false}, {f.IsSet, true},
		{f.Clear, true}, {f.IsSet, false}, {f.Clear, false}, {f.Set, true}, {f.Clear, true}, {f.IsSet, false},
	}
	for i, step := range steps {
		if got := step.call(); got != step.want {
			t.Errorf("call %d answers %v", i, got)
		}
	}
	var none *Flag
	if none.Set() || none.Set() || none.IsSet() || none.Clear() {
		t.Error("a nil Flag answers true")
	}
}

func TestFlagAtOnce(t *testing.T) { // P2.4
	// All go over the same flags, so that they meet.
	flags := make([]Flag, 200000)
	set, cleared := make([]atomic.Int32, len(flags)), make([]atomic.Int32, len(flags))
	many(8, func(int) {
		for i := range flags {
			if flags[i].Set() {
				set[i].Add(1)
			}
		}
	})
	many(8, func(int) {
		for i := range flags {
			if flags[i].Clear() {
				cleared[i].Add(1)
			}
		}
	})
	for i := range flags {
		if set[i].Load() != 1 || cleared[i].Load() != 1 {
			t.Fatalf("%d were told that they set it, %d that they cleared it", set[i].Load(), cleared[i].Load())
		}
	}
	// Who sets it goes on alone, till it clears it.
	var f Flag
	sum := 0
	many(8, func(int) {
		for range 200 {
			for !f.Set() {
				runtime.Gosched()
			}
			sum++
			f.Clear()
		}
	})
	if sum != 1600 {
		t.Errorf("the sum is %d", sum)
	}
}

func TestOnce(t *testing.T) { // P2.5
	var o Once[string]
	if o.Done() {
		t.Error("a zero Once is done")
	}
	called := 0
	within := true
	f := func(text string) func() string {
		return func() string {
			called++
			within = o.Done()
			return text
		}
	}
	if text, own := o.Do(f("a")); text != "a" || !own || within || !o.Done() {
		t.Errorf("the first Do is %q, %v; done within %v, behind it %v", text, own, within, o.Done())
	}
	for _, g := range []func() string{f("b"), f("a"), nil} {
		if text, own := o.Do(g); text != "a" || own || called != 1 {
			t.Errorf("another Do is %q, %v; %d calls", text, own, called)
		}
	}
}

func TestOnceWithoutFunction(t *testing.T) { // P2.5
	var o Once[int]
	if v, own := o.Do(nil); v != 0 || !own || !o.Done() {
		t.Errorf("Do(nil) is %d, %v; done %v", v, own, o.Done())
	}
	if v, own := o.Do(func() int { return 3 }); v != 0 || own {
		t.Errorf("Do behind Do(nil) is %d, %v", v, own)
	}
	var none *Once[int]
	called := false
	if v, own := none.Do(func() int { called = true; return 3 }); v != 0 || own || called || none.Done() {
		t.Errorf("a nil Once: %d, %v; called %v; done %v", v, own, called, none.Done())
	}
	if v, own := none.Do(nil); v != 0 || own {
		t.Errorf("a nil Once: Do(nil) is %d, %v", v, own)
	}
}

func TestOnceWaits(t *testing.T) { // P2.5
	var o Once[int]
	begun, goOn := make(chan int), make(chan int)
	var answered atomic.Int32
	var all sync.WaitGroup
	all.Add(1)
	go func() {
		defer all.Done()
		if v, own := o.Do(func() int { close(begun); <-goOn; return 7 }); v != 7 || !own {
			t.Errorf("the first Do is %d, %v", v, own)
		}
	}()
	<-begun
	for range 4 {
		all.Add(1)
		go func() {
			defer all.Done()
			v, own := o.Do(func() int { return 8 })
			answered.Add(1)
			if v != 7 || own {
				t.Errorf("another Do is %d, %v", v, own)
			}
		}()
	}
	time.Sleep(20 * time.Millisecond)
	if answered.Load() != 0 || o.Done() {
		t.Errorf("%d have not waited; done %v", answered.Load(), o.Done())
	}
	close(goOn)
	all.Wait()
	if !o.Done() {
		t.Error("it is not done")
	}
}

func TestBox(t *testing.T) { // P2.6
	var b Box[int]
	loads := func(want int, is bool) {
		t.Helper()
		if v, has := b.Load(); v != want || has != is {
			t.Errorf("Load is %d, %v, not %d, %v", v, has, want, is)
		}
	}
	loads(0, false)
	if v, is, err := b.Swap(0); v != 0 || is || err != api.OK {
		t.Errorf("Swap of an empty box is %d, %v, %v", v, is, err)
	}
	loads(0, true)
	errno(t, "Store", b.Store(4), api.OK)
	loads(4, true)
	if v, is, err := b.Swap(5); v != 4 || !is || err != api.OK {
		t.Errorf("Swap is %d, %v, %v", v, is, err)
	}
	loads(5, true)
	called := 0
	v, err := b.Turn(func(v int, is bool) int {
		called++
		if v != 5 || !is {
			t.Errorf("f is told %d, %v", v, is)
		}
		return 10 * v
	})
	if v != 50 || err != api.OK || called != 1 {
		t.Errorf("Turn is %d, %v; %d calls", v, err, called)
	}
	loads(50, true)
	if v, err := b.Turn(nil); v != 0 || err != api.ErrArg {
		t.Errorf("Turn(nil) is %d, %v", v, err)
	}
	loads(50, true)
}

func TestEmptyBox(t *testing.T) { // P2.6
	var stored Box[string]
	errno(t, "Store", stored.Store(""), api.OK)
	if v, is := stored.Load(); v != "" || !is {
		t.Errorf("Load is %q, %v", v, is)
	}
	var turned Box[string]
	v, err := turned.Turn(func(v string, is bool) string {
		if v != "" || is {
			t.Errorf("f of an empty box is told %q, %v", v, is)
		}
		return "x"
	})
	if v != "x" || err != api.OK {
		t.Errorf("Turn of an empty box is %q, %v", v, err)
	}
	var left Box[string]
	if v, err := left.Turn(nil); v != "" || err != api.ErrArg {
		t.Errorf("Turn(nil) is %q, %v", v, err)
	}
	if v, is := left.Load(); v != "" || is {
		t.Errorf("Turn(nil) has put in %q, %v", v, is)
	}
	// A box of things without size is empty or not, like any other one.
	var bare Box[struct{}]
	if _, is := bare.Load(); is {
		t.Error("a zero box is not empty")
	}
	bare.Store(struct{}{})
	if _, is := bare.Load(); !is {
		t.Error("a box is empty behind Store")
	}
}

func TestNilBox(t *testing.T) { // P2.6
	var b *Box[int]
	if v, is := b.Load(); v != 0 || is {
		t.Errorf("Load is %d, %v", v, is)
	}
	errno(t, "Store", b.Store(3), api.ErrNil)
	if v, is, err := b.Swap(3); v != 0 || is || err != api.ErrNil {
		t.Errorf("Swap is %d, %v, %v", v, is, err)
	}
	for _, f := range []func(int, bool) int{nil, func(int, bool) int { t.Error("f is called"); return 3 }} {
		if v, err := b.Turn(f); v != 0 || err != api.ErrNil {
			t.Errorf("Turn is %d, %v", v, err)
		}
	}
}

// TestTurnAgain: another thing was put in while f went on.
func TestTurnAgain(t *testing.T) { // P2.6
	type told struct {
		v  int
		is bool
	}
	var b Box[int]
	var heard []told
	v, err := b.Turn(func(v int, is bool) int {
		heard = append(heard, told{v, is})
		if len(heard) < 4 {
			var all sync.WaitGroup
			all.Add(1)
			go func() {
				defer all.Done()
				b.Store(10 * len(heard))
			}()
			all.Wait()
		}
		return v + 1
	})
	if want := []told{{0, false}, {10, true}, {20, true}, {30, true}}; v != 31 || err != api.OK || !slices.Equal(heard, want) {
		t.Errorf("Turn is %d, %v; f was told %v", v, err, heard)
	}
	if v, is := b.Load(); v != 31 || !is {
		t.Errorf("Load is %d, %v", v, is)
	}
}

func TestTurnAtOnce(t *testing.T) { // P2.6
	const count, times = 16, 2000
	var b Box[int]
	turned := make([]atomic.Int32, count*times+1)
	many(count, func(int) {
		for range times {
			v, _ := b.Turn(func(v int, is bool) int { return v + 1 })
			turned[v].Add(1)
		}
	})
	if v, _ := b.Load(); v != count*times {
		t.Errorf("%d turns came to %d", count*times, v)
	}
	for v := 1; v < len(turned); v++ {
		if turned[v].Load() != 1 {
			t.Fatalf("%d was put in %d times", v, turned[v].Load())
		}
	}
}

// TestBoxSwapAtOnce: each thing that is put in is told to just one, and just one finds the box empty.
func TestBoxSwapAtOnce(t *testing.T) { // P2.6
	const count, times = 8, 20000
	var s Box[int]
	swapped := make([]atomic.Int32, count*times+1)
	var empty atomic.Int32
	many(count, func(own int) {
		for i := range times {
			if v, is, _ := s.Swap(own*times + i + 1); is {
				swapped[v].Add(1)
			} else {
				empty.Add(1)
			}
		}
	})
	last, _ := s.Load()
	swapped[last].Add(1)
	for v := 1; v < len(swapped); v++ {
		if swapped[v].Load() != 1 {
			t.Fatalf("%d was told %d times", v, swapped[v].Load())
		}
	}
	if empty.Load() != 1 {
		t.Errorf("%d found the box empty", empty.Load())
	}
}

// TestTypesExamples: the chapter's examples of the five types, row by row.
func TestTypesExamples(t *testing.T) {
	for _, call := range []func() (*Cells, api.Errno){
		func() (*Cells, api.Errno) { return New(0) },
		func() (*Cells, api.Errno) { return New(65537) },
		func() (*Cells, api.Errno) { return New(1, 5, 6) },
	} {
		if c, err := call(); c != nil || err != api.ErrArg {
			t.Errorf("New is %v, %v", c, err)
		}
	}
	type answer struct {
		word uint64
		is   bool
		err  api.Errno
	}
	var got []answer
	word := func(w uint64, err api.Errno) { got = append(got, answer{w, false, err}) }
	is := func(b bool, err api.Errno) { got = append(got, answer{0, b, err}) }
	c := made(t, 2, 7)
	word(c.Load(0))
	word(c.Load(1))
	word(c.Load(2))
	word(c.Swap(0, 9))
	is(c.Cas(0, 7, 1))
	is(c.Cas(0, 9, 1))
	word(c.Do(api.MixAdd, 0, top))
	has(t, c, 0, 0)
	word(c.Do(api.MixMax, 1, 5))
	word(c.Do(8, 1, 5))
	word(c.Do(8, 2, 5))
	want := []answer{{7, false, 0}, {0, false, 0}, {0, false, api.ErrRange}, {7, false, 0}, {}, {0, true, 0}, {1, false, 0}, {}, {0, false, api.ErrArg}, {0, false, api.ErrRange}}
	if !slices.Equal(got, want) {
		t.Errorf("cells answer %v, not %v", got, want)
	}
	tickets := NewTickets(top)
	a, _ := tickets.Next()
	b, _ := tickets.Next()
	if a != top || b != 0 || tickets.Given() != 2 {
		t.Errorf("tickets are %d, %d; given %d", a, b, tickets.Given())
	}
	var f Flag
	if set := []bool{f.Set(), f.Set(), f.Clear(), f.Clear(), f.IsSet()}; !slices.Equal(set, []bool{true, false, true, false, false}) {
		t.Errorf("a Flag answers %v", set)
	}
	var o Once[int]
	v, own := o.Do(func() int { return 3 })
	w, other := o.Do(func() int { return 4 })
	if v != 3 || !own || w != 3 || other || !o.Done() {
		t.Errorf("a Once answers %d %v, %d %v, %v", v, own, w, other, o.Done())
	}
	var x Box[int]
	v1, is1 := x.Load()
	v2, is2, _ := x.Swap(5)
	v3, _ := x.Turn(func(v int, _ bool) int { return v + 1 })
	v4, is4 := x.Load()
	if v1 != 0 || is1 || v2 != 0 || is2 || v3 != 6 || v4 != 6 || !is4 {
		t.Errorf("a Box answers %d %v, %d %v, %d, %d %v", v1, is1, v2, is2, v3, v4, is4)
	}
}
