package seq

import (
	"math"
	"testing"

	"parley/api"
)

const top = math.MaxUint64

// drawn is a row of numbers that looks drawn, and is the same each time.
type drawn uint64

func (d *drawn) next() uint64 {
	*d = *d*6364136223846793005 + 1442695040888963407
	return uint64(*d >> 33)
}

// below is a number from 0 to n - 1.
func (d *drawn) below(n int) int { return int(d.next() % uint64(n)) }

// has asks a clock for its word by Load, and for its steps ahead of that.
func has(t *testing.T, c *Clock, word uint64, steps int) {
	t.Helper()
	if got := c.Steps(); got != steps {
		t.Fatalf("Steps is %d, not %d", got, steps)
	}
	if got, err := c.Load(); got != word || err != api.OK {
		t.Fatalf("Load answers %d, %v, not %d", got, err, word)
	}
}

// take asks whether a Take goes well.
func take(t *testing.T, c *Clock, s uint64, want bool) {
	t.Helper()
	if got, err := c.Take(s); got != want || err != api.OK {
		t.Fatalf("Take(%d) answers %v, %v, not %v", s, got, err, want)
	}
}

// errno asks for an error.
func errno(t *testing.T, what string, got, want api.Errno) {
	t.Helper()
	if got != want {
		t.Fatalf("%s answers %v, not %v", what, got, want)
	}
}

// P6.1
func TestNewAndFrom(t *testing.T) {
	has(t, New(), 0, 0)
	for _, word := range []uint64{0, 1, 2, 3, 1 << 63, top - 1, top} {
		has(t, From(word), word, 0)
	}
	c, d := New(), New()
	take(t, c, 0, true)
	has(t, c, 1, 1)
	has(t, d, 0, 0)
}

// P6.1
func TestWordsAndNumbers(t *testing.T) {
	words := []struct {
		word   uint64
		open   bool
		number uint64
	}{
		{0, true, 0},
		{1, false, 0},
		{2, true, 1},
		{3, false, 1},
		{6, true, 3},
		{7, false, 3},
		{1 << 63, true, 1 << 62},
		{1<<63 + 1, false, 1 << 62},
		{top - 1, true, 1<<63 - 1},
		{top, false, 1<<63 - 1},
	}
	for _, w := range words {
		if got := Open(w.word); got != w.open {
			t.Errorf("Open(%d) is %v", w.word, got)
		}
		if got := Number(w.word); got != w.number {
			t.Errorf("Number(%d) is %d, not %d", w.word, got, w.number)
		}
	}
	numbers := []struct{ number, word uint64 }{
		{0, 0},
		{1, 2},
		{3, 6},
		{1<<63 - 1, top - 1},
		{1 << 63, 0},
		{1<<63 + 1, 2},
		{top, top - 1},
	}
	for _, n := range numbers {
		if got := Snapshot(n.number); got != n.word {
			t.Errorf("Snapshot(%d) is %d, not %d", n.number, got, n.word)
		}
	}
}

// P6.2
func TestTake(t *testing.T) {
	cases := []struct {
		name    string
		word, s uint64
		want    bool
		behind  uint64
	}{
		{"the first word", 0, 0, true, 1},
		{"a word that is open", 6, 6, true, 7},
		{"the greatest one that is open", top - 1, top - 1, true, top},
		{"half of all words", 1 << 63, 1 << 63, true, 1<<63 + 1},
		{"the word is one further", 8, 6, false, 8},
		{"the word is one less far", 6, 8, false, 6},
		{"the word is as far from it as can be", 0, 1 << 63, false, 0},
		{"the word lies behind the round", 0, top - 1, false, 0},
		{"it is held there", 7, 6, false, 7},
		{"it is held one ahead", 7, 8, false, 7},
		{"it is held at the last word", top, top - 1, false, top},
		{"it is held at the last word, and s is the first", top, 0, false, top},
		{"s is odd, and the word", 7, 7, false, 7},
		{"s is odd, and the word, at 1", 1, 1, false, 1},
		{"s is odd, and the word, at the top", top, top, false, top},
		{"s is odd, and the word is open", 6, 7, false, 6},
		{"s is odd, and the word is the next one", 8, 7, false, 8},
	}
	for _, k := range cases {
		t.Run(k.name, func(t *testing.T) {
			c := From(k.word)
			take(t, c, k.s, k.want)
			has(t, c, k.behind, 1)
		})
	}
}

// P6.3
func TestLeaveAndBack(t *testing.T) {
	cases := []struct {
		name        string
		word, s     uint64
		want        api.Errno
		leave, back uint64
	}{
		{"held at the first word", 1, 0, api.OK, 2, 0},
		{"held", 7, 6, api.OK, 8, 6},
		{"held at half of all words", 1<<63 + 1, 1 << 63, api.OK, 1<<63 + 2, 1 << 63},
		{"held at the last word: Leave goes round", top, top - 1, api.OK, 0, top - 1},
		{"open at s", 6, 6, api.ErrHeld, 6, 6},
		{"open at the first word", 0, 0, api.ErrHeld, 0, 0},
		{"open behind s", 8, 6, api.ErrHeld, 8, 8},
		{"open ahead of s", 4, 6, api.ErrHeld, 4, 4},
		{"held behind s", 9, 6, api.ErrHeld, 9, 9},
		{"held ahead of s", 5, 6, api.ErrHeld, 5, 5},
		{"held at the last word, not the first", top, 0, api.ErrHeld, top, top},
		{"held at the first word, not the last", 1, top - 1, api.ErrHeld, 1, 1},
		{"s is odd, and the word", 7, 7, api.ErrHeld, 7, 7},
		{"s is odd, and the word is s and 1", 8, 7, api.ErrHeld, 8, 8},
		{"s is the top, and the word is s and 1", 0, top, api.ErrHeld, 0, 0},
		{"s is odd, and the word is s and 2", 9, 7, api.ErrHeld, 9, 9},
	}
	for _, k := range cases {
		t.Run(k.name, func(t *testing.T) {
			c := From(k.word)
			errno(t, "Leave", c.Leave(k.s), k.want)
			has(t, c, k.leave, 1)
			c = From(k.word)
			errno(t, "Back", c.Back(k.s), k.want)
			has(t, c, k.back, 1)
		})
	}
}

// P6.4
func TestSteps(t *testing.T) {
	c := New()
	steps := 0
	step := func(what string) {
		t.Helper()
		steps++
		if got := c.Steps(); got != steps {
			t.Fatalf("%s: Steps is %d, not %d", what, got, steps)
		}
	}
	load := func() {
		c.Load()
		step("a Load")
	}
	load()
	c.Take(1)
	step("a Take at an odd word")
	c.Take(4)
	step("a Take at another word")
	c.Leave(0)
	step("a Leave of what is not held")
	c.Back(0)
	step("a Back of what is not held")
	c.Take(0)
	step("a Take that goes well")
	c.Leave(1)
	step("a Leave at an odd word")
	c.Back(1)
	step("a Back at an odd word")
	c.Back(0)
	step("a Back that goes well")
	c.Take(0)
	step("another Take")
	c.Leave(0)
	step("a Leave that goes well")
	load()
	c.Copy()
	Open(0)
	Number(0)
	Snapshot(0)
	if c.Steps() != steps || c.Steps() != steps {
		t.Fatal("a call counts that is none of the four")
	}
}

// P6.4
func TestCopy(t *testing.T) {
	c := From(6)
	has(t, c, 6, 0)
	open := c.Copy()
	take(t, c, 6, true)
	held := c.Copy()
	has(t, open, 6, 1)
	has(t, held, 7, 2)
	has(t, c, 7, 2)

	errno(t, "Leave", held.Leave(6), api.OK)
	errno(t, "Back", c.Back(6), api.OK)
	take(t, open, 6, true)
	has(t, held, 8, 4)
	has(t, c, 6, 4)
	has(t, open, 7, 3)

	again := held.Copy().Copy()
	take(t, again, 8, true)
	has(t, again, 9, 6)
	has(t, held, 8, 5)
}

// P6.2, P6.3, P6.4: a clock that no call made is as one that is not there.
func TestNil(t *testing.T) {
	for name, c := range map[string]*Clock{"nil": nil, "zero": new(Clock)} {
		t.Run(name, func(t *testing.T) {
			for _, s := range []uint64{0, 1, 2, top - 1, top} {
				if ok, err := c.Take(s); ok || err != api.ErrNil {
					t.Errorf("Take(%d) answers %v, %v", s, ok, err)
				}
				errno(t, "Leave", c.Leave(s), api.ErrNil)
				errno(t, "Back", c.Back(s), api.ErrNil)
			}
			if word, err := c.Load(); word != 0 || err != api.ErrNil {
				t.Errorf("Load answers %d, %v", word, err)
			}
			if steps := c.Steps(); steps != 0 {
				t.Errorf("Steps is %d", steps)
			}
			if other := c.Copy(); other != nil {
				t.Errorf("Copy is %v", other)
			}
		})
	}
}

// P6.5: while one holds the clock no Take goes well, whatever its s.
func TestOneHolder(t *testing.T) {
	for _, s := range []uint64{0, 2, 40, 1 << 63, top - 1} {
		for _, end := range []string{"Leave", "Back"} {
			c := From(s)
			take(t, c, s, true)
			for _, other := range []uint64{s, s + 1, s + 2, s + 3, s - 1, s - 2, 0, 1, 2, 1 << 62, 1 << 63, top - 1, top} {
				take(t, c, other, false)
				if other != s {
					errno(t, "Leave", c.Leave(other), api.ErrHeld)
					errno(t, "Back", c.Back(other), api.ErrHeld)
				}
				take(t, c, other, false)
			}
			next := s
			if end == "Leave" {
				errno(t, end, c.Leave(s), api.OK)
				next += 2
			} else {
				errno(t, end, c.Back(s), api.OK)
			}
			take(t, c, next, true)
		}
	}
}

// P6.5: the number tells how many have written, modulo 2^63.
func TestNumberOfWriters(t *testing.T) {
	for _, first := range []uint64{0, 2, 40, 1 << 63, top - 1, top - 199, top - 201} {
		c := From(first)
		for n := range uint64(100) {
			s, _ := c.Load()
			if got, want := Number(s), (Number(first)+n)%(1<<63); got != want {
				t.Fatalf("behind %d writers from %d on the number is %d, not %d", n, first, got, want)
			}
			if n%3 == 0 {
				take(t, c, s, true)
				errno(t, "Back", c.Back(s), api.OK)
			}
			take(t, c, s, true)
			errno(t, "Leave", c.Leave(s), api.OK)
		}
	}
}

// model does what the chapter's section 'Words' says, word by word.
type model struct {
	word  uint64
	steps int
}

func (m *model) free(s uint64) bool { return s%2 == 0 && m.word == s }
func (m *model) held(s uint64) bool { return s%2 == 0 && m.word == s+1 }

// call does one of the four calls on both, and asks that they answer the same.
func (m *model) call(t *testing.T, c *Clock, kind int, s uint64) {
	t.Helper()
	m.steps++
	switch kind {
	case 0:
		if word, err := c.Load(); word != m.word || err != api.OK {
			t.Fatalf("Load answers %d, %v, not %d", word, err, m.word)
		}
	case 1:
		free := m.free(s)
		take(t, c, s, free)
		if free {
			m.word = s + 1
		}
	case 2, 3:
		want := api.ErrHeld
		leave := kind == 2
		held := m.held(s)
		if held {
			want = api.OK
			m.word = s
		}
		if held && leave {
			m.word = s + 2
		}
		if leave {
			errno(t, "Leave", c.Leave(s), want)
		} else {
			errno(t, "Back", c.Back(s), want)
		}
	}
}

// P6.2 to P6.5: drawn calls, near the word, also where it goes round.
func TestDrawn(t *testing.T) {
	draw := drawn(6)
	for _, first := range []uint64{0, 1, 7, 1 << 63, top - 20, top - 1, top} {
		c, m := From(first), model{word: first}
		for range 4000 {
			m.call(t, c, draw.below(4), m.word+uint64(draw.below(7))-3)
			if read(c) != m.word || c.Steps() != m.steps {
				t.Fatalf("the word is %d behind %d steps, not %d behind %d", read(c), c.Steps(), m.word, m.steps)
			}
			if draw.below(8) == 0 {
				c = c.Copy()
			}
		}
	}
}

// P6.5: the word falls by Back and by going round, and by nothing else.
func TestWordNeverFalls(t *testing.T) {
	words := []uint64{0, 1, 2, 3, 4, 5, 1<<63 - 1, 1 << 63, 1<<63 + 1, top - 3, top - 2, top - 1, top}
	for _, word := range words {
		for _, s := range words {
			taken, left := From(word), From(word)
			taken.Take(s)
			if got := read(taken); got < word {
				t.Errorf("Take(%d): the word falls from %d to %d", s, word, got)
			}
			left.Leave(s)
			if got := read(left); got < word && (word != top || got != 0) {
				t.Errorf("Leave(%d): the word falls from %d to %d", s, word, got)
			}
		}
	}
}

// read tells a clock's word by a copy, which leaves its steps as they are.
func read(c *Clock) uint64 {
	word, _ := c.Copy().Load()
	return word
}

// The chapter's examples, row by row.
func TestExamples(t *testing.T) {
	c := New()
	has(t, c, 0, 0)
	take(t, c, 0, true)
	has(t, c, 1, 2)
	take(t, c, 0, false)
	take(t, c, 1, false)
	errno(t, "Leave(2)", c.Leave(2), api.ErrHeld)

	errno(t, "Leave(0)", c.Leave(0), api.OK)
	has(t, c, 2, 7)
	take(t, c, 0, false)
	take(t, c, 2, true)
	errno(t, "Back(2)", c.Back(2), api.OK)
	has(t, c, 2, 11)
	if c.Steps() != 12 {
		t.Errorf("Steps is %d, not 12", c.Steps())
	}

	c = From(top - 1)
	take(t, c, top-1, true)
	errno(t, "Leave(2^64 - 2)", c.Leave(top-1), api.OK)
	has(t, c, 0, 2)

	c = From(7)
	take(t, c, 7, false)
	take(t, c, 6, false)
	errno(t, "Leave(6)", c.Leave(6), api.OK)
	has(t, c, 8, 3)

	if !Open(0) || Open(3) || Number(7) != 3 || Snapshot(3) != 6 {
		t.Error("Open, Number or Snapshot")
	}

	c = nil
	_, loaded := c.Load()
	_, taken := c.Take(0)
	errno(t, "Load", loaded, api.ErrNil)
	errno(t, "Take", taken, api.ErrNil)
	if c.Steps() != 0 || c.Copy() != nil {
		t.Error("Steps or Copy of nil")
	}
}
