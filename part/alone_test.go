package part

import (
	"fmt"
	"slices"
	"testing"

	"parley/api"
	"parley/attempt"
	"parley/cells"
	"parley/list"
	"parley/queue"
	rooms "parley/room"
	"parley/seq"
)

// block is a tx of an attempt: between its steps others may do theirs.
type block struct {
	a       *attempt.Attempt
	between func(a *attempt.Attempt)
}

func (b block) Get(addr uint64) (uint64, api.Errno) {
	turn, err := b.goesOn(b.a.Get(addr))
	if err == api.OK && turn.Out == api.OutStale {
		err = api.ErrStale
	}
	if err != api.OK {
		return 0, err
	}
	return turn.Word, api.OK
}

func (b block) Put(addr, word uint64) api.Errno {
	_, err := b.a.Put(addr, word)
	return err
}

// goesOn makes steps till what was begun is done.
func (b block) goesOn(turn api.Turn, err api.Errno) (api.Turn, api.Errno) {
	for err == api.OK && turn.Out == api.OutGoing {
		b.between(b.a)
		turn, err = b.a.Step()
	}
	return turn, err
}

// memory is a row of cells with a clock.
type memory struct {
	row   *cells.Row
	clock *seq.Clock
}

func newMemory(w words) memory {
	m := memory{clock: seq.New()}
	m.row, _ = cells.New(100)
	for addr, word := range w {
		m.row.Store(addr, word)
	}
	return m
}

// has is all cells of the memory.
func (m memory) has() string {
	var all []uint64
	for _, word := range m.row.All() {
		all = append(all, word)
	}
	return text(all)
}

// does makes a call as a block, anew as long as it is stale; one that is refused is given up.
func (m memory) does(t *testing.T, c call, between func(a *attempt.Attempt)) answer {
	t.Helper()
	for range 6 {
		a, _, err := attempt.Begin(m.row, m.clock)
		if a == nil {
			t.Fatal("no attempt has begun", err)
		}
		b := block{a, between}
		got := c(b)
		if got.err == api.ErrStale {
			continue
		}
		if got.err != api.OK {
			a.Drop()
			return got
		}
		turn, err := b.goesOn(a.End())
		if err != api.OK {
			t.Fatal(err)
		}
		if turn.Out == api.OutCommitted {
			return got
		}
	}
	t.Fatal("is stale for no cause")
	return answer{}
}

// Calls of queues and lists that are made beside a part's.
func puts(q, word uint64) call {
	return func(tx api.Tx) answer { return answer{err: queue.Put(tx, 0, q, word)} }
}

func out(q uint64) call {
	return func(tx api.Tx) answer {
		word, is, err := queue.Take(tx, 0, q)
		return answer{list: fmt.Sprint(word, is), err: err}
	}
}

func first(q uint64) call {
	return func(tx api.Tx) answer {
		word, is, err := queue.First(tx, q)
		return answer{list: fmt.Sprint(word, is), err: err}
	}
}

func all(q uint64) call {
	return func(tx api.Tx) answer {
		list, err := queue.Words(tx, q)
		return answer{list: text(list), err: err}
	}
}

func inserts(l, key uint64) call {
	return func(tx api.Tx) answer {
		is, err := list.Insert(tx, 0, l, key)
		return answer{list: fmt.Sprint(is), err: err}
	}
}

func removes(l, key uint64) call {
	return func(tx api.Tx) answer {
		is, err := list.Remove(tx, 0, l, key)
		return answer{list: fmt.Sprint(is), err: err}
	}
}

func keys(l uint64) call {
	return func(tx api.Tx) answer {
		list, err := list.Keys(tx, l)
		return answer{list: text(list), err: err}
	}
}

// Where the world of these tests has its things: a room at 0, and in it a queue of 5 6 7, one without words, a list of 3 9, and a part of 8 4 that was taken out of a queue.
const (
	full  = 20
	empty = 23
	keyed = 26
)

// world is the cells of that, and the part.
func world(t *testing.T) (words, api.Part) {
	t.Helper()
	b := open(words{})
	rooms.Lay(b, 0, 20, 90)
	for _, want := range []uint64{full, empty} {
		if q, err := queue.New(b, 0); q != want || err != api.OK {
			t.Fatal(q, err)
		}
	}
	if l, err := list.New(b, 0); l != keyed || err != api.OK {
		t.Fatal(l, err)
	}
	for _, word := range []uint64{8, 4} {
		queue.Put(b, 0, empty, word)
	}
	p, err := Queue(b, empty)
	if p.Count != 2 || err != api.OK {
		t.Fatal(p, err)
	}
	for _, word := range []uint64{5, 6, 7} {
		queue.Put(b, 0, full, word)
	}
	list.Insert(b, 0, keyed, 9)
	list.Insert(b, 0, keyed, 3)
	return b.words, p
}

// P0.6 of a part's calls, and of queues' and lists' beside them: one call as a block, between any two steps of which another one's is done: they are as if one was done behind the other, and a call that is refused has changed nothing.
func TestAsIfAlone(t *testing.T) {
	w, p := world(t)
	calls := map[string]call{
		"Queue": takesQueue(full), "Queue of no word": takesQueue(empty), "List": takesList(keyed), "Give": gives(0, p), "Back": lays(empty, p), "Back to words": lays(full, p),
		"Put": puts(full, 1), "Put as the first": puts(empty, 2), "Take": out(full), "Take of none": out(empty), "Words": all(full), "First": first(empty),
		"Insert": inserts(keyed, 5), "Remove": removes(keyed, 3), "Keys": keys(keyed),
	}
	for name, one := range calls {
		for beside, other := range calls {
			meet(t, name+" beside "+beside, w, one, other)
		}
	}
}

// alone makes two calls one behind the other; one that is refused is given up.
func alone(w words, one, other call) (told [2]answer, has string) {
	for n, c := range []call{one, other} {
		b := open(w)
		if told[n] = c(b); told[n].err == api.OK {
			w = b.words
		}
	}
	return told, newMemory(w).has()
}

// meet makes one call, and another one at each place between its steps, one place at a time.
func meet(t *testing.T, name string, w words, one, other call) {
	t.Helper()
	told, has := alone(w, one, other)
	oneAhead := fmt.Sprint(told[0], told[1], has)
	told, has = alone(w, other, one)
	otherAhead := fmt.Sprint(told[1], told[0], has)
	for at := 0; ; at++ {
		m := newMemory(w)
		steps, done := 0, false
		var beside answer
		got := m.does(t, one, func(a *attempt.Attempt) {
			// Who holds the lock is waited for.
			if steps++; !done && steps > at && !a.Locked() {
				done = true
				beside = m.does(t, other, func(*attempt.Attempt) {})
			}
		})
		if !done {
			return
		}
		if now := fmt.Sprint(got, beside, m.has()); now != oneAhead && now != otherAhead {
			t.Fatalf("%s, at %d: %s, neither %s nor %s", name, at, now, oneAhead, otherAhead)
		}
	}
}

// owner is who takes a queue or a list out, turns its words plainly, and lays or gives them back: one thing at a time.
type owner struct {
	m      memory
	kind   api.PartKind
	header uint64
	last   func(p api.Part) call // what is done at the end
	part   api.Part
	mine   map[uint64]uint64 // what the cells of the part have, as the owner knows
	turns  []uint64          // addresses that are still to be turned
	state  int
}

// takesOut is the first thing: from then on the cells are the owner's.
func (o *owner) takesOut(t *testing.T) {
	got := o.m.does(t, takes(o.kind, o.header), func(*attempt.Attempt) {})
	o.part, o.mine = got.part, map[uint64]uint64{}
	for next := o.part.First; next != 0; {
		word, _ := o.m.row.Load(next - 1)
		o.mine[next-1] = word
		o.turns = append(o.turns, next-1)
		at := next
		next, _ = o.m.row.Load(at)
		o.mine[at] = next
	}
	if len(o.turns) != int(got.part.Count) || got.err != api.OK {
		t.Fatalf("answers %v, and %d nodes are there", got, len(o.turns))
	}
}

// goesOn does the owner's next thing: takes out, turns one word, reads all, does the last thing. What it loads plainly is what it knows.
func (o *owner) goesOn(t *testing.T) {
	switch {
	case o.state == 0:
		o.takesOut(t)
		o.state++
	case o.state == 1 && len(o.turns) > 0:
		one := api.Part{Kind: o.kind, First: o.turns[0] + 1, Count: 1}
		// A part of one node: its next one is told as none.
		load := func(addr uint64) (uint64, api.Errno) {
			word, err := o.m.row.Load(addr)
			if word != o.mine[addr] {
				t.Fatalf("the cell %d has %d, not the owner's %d", addr, word, o.mine[addr])
			}
			if addr == o.turns[0]+1 {
				word = 0
			}
			return word, err
		}
		if err := Turn(one, load, o.m.row.Store, flips); err != api.OK {
			t.Fatal(err)
		}
		o.mine[o.turns[0]] = ^o.mine[o.turns[0]]
		o.turns = o.turns[1:]
	case o.state == 1:
		if _, err := Read(o.part, o.m.row.Load); err != api.OK {
			t.Fatal(err)
		}
		o.state++
	case o.state == 2:
		o.state++
		o.mine = nil
		if got := o.m.does(t, o.last(o.part), func(*attempt.Attempt) {}); got.err != api.OK {
			t.Fatal(got)
		}
	}
}

// holds asks whether the owner's cells have what it knows.
func (o *owner) holds(t *testing.T) {
	t.Helper()
	for addr, want := range o.mine {
		if word, _ := o.m.row.Load(addr); word != want {
			t.Fatalf("the cell %d has %d, not the owner's %d", addr, word, want)
		}
	}
}

// turnedBy is the calls that an owner makes over cells that nobody else has: what the cells are behind the first of them, and behind them all.
func turnedBy(w words, kind api.PartKind, header uint64, last func(p api.Part) call) (taken, over words) {
	b := open(w)
	p := takes(kind, header)(b).part
	taken = b.words.behind(nil)
	turns(p, flips)(b)
	last(p)(b)
	return taken, b.words
}

// P0.5, P26.6: between any steps of another one's call an owner takes all out, turns it plainly, word by word, and lays or gives it back: no step of the other one stores into what is the owner's, whose loads find what it knows, and the other one's call is as if it was done ahead of it all, while all was out, or behind it all.
func TestOnesOwn(t *testing.T) {
	w, _ := world(t)
	laid := func(p api.Part) call { return lays(full, p) }
	given := func(p api.Part) call { return gives(0, p) }
	for _, o := range []struct {
		name   string
		kind   api.PartKind
		header uint64
		last   func(p api.Part) call
		others map[string]call
	}{
		{"a queue that is laid back", api.PartQueue, full, laid, map[string]call{"Take": out(full), "Words": all(full), "First": first(full), "Queue": takesQueue(empty), "Insert": inserts(keyed, 5)}},
		{"a queue that is given back", api.PartQueue, full, given, map[string]call{"Put": puts(full, 1), "Take": out(full), "Words": all(full), "First": first(full), "Queue": takesQueue(full), "Insert": inserts(keyed, 5)}},
		{"a list that is given back", api.PartList, keyed, given, map[string]call{"Insert": inserts(keyed, 5), "Insert of one that is there": inserts(keyed, 9), "Remove": removes(keyed, 9), "Keys": keys(keyed), "List": takesList(keyed), "Put": puts(full, 1)}},
	} {
		taken, over := turnedBy(w, o.kind, o.header, o.last)
		for name, c := range o.others {
			told := map[answer]bool{}
			for _, cells := range []words{w, taken, over} {
				told[c(open(cells))] = true
			}
			between(t, o.name+" beside "+name, w, owner{kind: o.kind, header: o.header, last: o.last}, c, told)
		}
	}
}

// between makes a call, and the owner's things between its steps, at all places for the first thing, all lengths of what is between that and the next ones, and of what is ahead of the last one.
func between(t *testing.T, name string, w words, o owner, c call, told map[answer]bool) {
	t.Helper()
	const most = 40
	for start := range most {
		begun := false
		for gap := range 5 {
			for end := range most - start {
				o := o
				o.m = newMemory(w)
				step, due := 0, start
				got := o.m.does(t, c, func(a *attempt.Attempt) {
					o.holds(t)
					if step++; step > due && !a.Locked() && o.state < 3 {
						begun = true
						o.goesOn(t)
						due = step + gap
						if o.state == 2 {
							due = step + end
						}
					}
					o.holds(t)
				})
				if !told[got] {
					t.Fatalf("%s, at %d %d %d: answers %v, none of %v", name, start, gap, end, got, told)
				}
				for o.state < 3 {
					o.goesOn(t)
					o.holds(t)
				}
				sound(t, o.m, name)
				if end > step {
					break
				}
			}
		}
		if !begun {
			return
		}
	}
	t.Fatalf("%s: goes by too many steps", name)
}

// sound asks whether the queues and the list are as their calls leave them, with no cell in two places.
func sound(t *testing.T, m memory, name string) {
	t.Helper()
	w := words{}
	for addr, word := range m.row.All() {
		w.set(addr, word)
	}
	var nodes []uint64
	for _, head := range []uint64{full, empty, keyed + 1, 3} {
		for next := w[head]; next != 0; {
			nodes = append(nodes, next-1)
			if next = w[next]; head == 3 {
				next = w[nodes[len(nodes)-1]]
			}
			if len(nodes) > 60 {
				t.Fatalf("%s: nodes go round", name)
			}
		}
	}
	if slices.Sort(nodes); len(slices.Compact(slices.Clone(nodes))) != len(nodes) {
		t.Fatalf("%s: a node stands in two places: %v", name, nodes)
	}
	for _, q := range []uint64{full, empty} {
		if _, err := queue.Words(open(w), q); err != api.OK {
			t.Fatalf("%s: the queue at %d answers %v", name, q, err)
		}
	}
	if _, err := list.Keys(open(w), keyed); err != api.OK {
		t.Fatalf("%s: the list answers %v", name, err)
	}
}
