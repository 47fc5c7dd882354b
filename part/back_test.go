package part

import (
	"maps"
	"slices"
	"testing"

	"parley/api"
	"parley/queue"
	rooms "parley/room"
)

// P26.5: the queue's own cells are asked, then the part's as Read asks them, then the queue has the part's chain.
func TestBack(t *testing.T) {
	eachPart(t, func(t *testing.T, w words, p api.Part, nodes, had []uint64) {
		if p.Kind != api.PartQueue {
			return
		}
		for _, q := range headers {
			trace := asks(t, w, lays(q, p), nothing)
			behind, want := w.behind(trace), hung(w, p, q, nodes)
			if !maps.Equal(behind, want) {
				t.Errorf("the cells are %v, not %v", behind, want)
			}
			holds(t, behind, q, had...)
			chain := map[uint64]bool{}
			for _, node := range nodes {
				chain[node], chain[node+1] = true, true
			}
			own := headersOf(p.Kind, q)
			for _, a := range trace {
				if !own[a.addr] && (a.put || !chain[a.addr]) {
					t.Errorf("goes by %v", a)
				}
			}
		}
	})
}

// P26.5: all gets come ahead of all puts, so that a chain that does not hold together changes nothing.
func TestBackPutsLast(t *testing.T) {
	w, p := chained(api.PartQueue, at[0], rows[2])
	trace := asks(t, w, lays(100, p), nothing)
	first := slices.IndexFunc(trace, func(a access) bool { return a.put })
	for n, a := range trace {
		if a.put != (n >= first) {
			t.Errorf("goes by %v", trace)
		}
	}
}

// P26.5: a queue that has words: ErrArg, whatever the part, and nothing of the part is asked.
func TestBackToWords(t *testing.T) {
	eachPart(t, func(t *testing.T, w words, p api.Part, nodes, had []uint64) {
		if p.Kind != api.PartQueue {
			return
		}
		for _, q := range headers {
			for many := 1; many < 4; many++ {
				has, own := chained(api.PartQueue, []uint64{500, 510, 520}, []uint64{1, 2, 3}[:many])
				w := hung(w.with(has), own, q, []uint64{500, 510, 520}[:many])
				for _, count := range []uint64{p.Count, p.Count + 1, top} {
					p := p
					p.Count = count
					trace := asks(t, w, lays(q, p), wrong(api.ErrArg))
					for _, a := range trace {
						if a.put || !headersOf(p.Kind, q)[a.addr] {
							t.Errorf("goes by %v", a)
						}
					}
				}
				holds(t, w, q, []uint64{1, 2, 3}[:many]...)
			}
		}
	})
}

// P26.5: the part of a list is laid into no queue; nor is what is no part.
func TestBackOfOtherKinds(t *testing.T) {
	w, p := chained(api.PartQueue, at[0], rows[2])
	for _, kind := range []api.PartKind{api.PartList, 0, 3, -1, 1 << 40} {
		p.Kind = kind
		for _, w := range []words{w, w.with(words{100: 31, 101: 41, 102: 3})} {
			for _, count := range []uint64{0, 3, 4, top} {
				p.Count = count
				goes(t, w, lays(100, p), wrong(api.ErrArg))
			}
		}
	}
}

// P26.5: of a part without nodes the queue has no words, as before.
func TestBackOfNoNode(t *testing.T) {
	p := api.Part{Kind: api.PartQueue}
	b := open(words{})
	if got := lays(100, p)(b); got != nothing || b.puts() > 0 || len(b.words) > 0 {
		t.Errorf("answers %v behind %v", got, b.trace)
	}
	holds(t, b.words, 100)
	asks(t, words{}, lays(100, p), nothing)
	asks(t, words{100: 51, 101: 51, 102: 1}, lays(100, p), wrong(api.ErrArg))
}

// P26.5: the queue goes on as a queue: with words put behind the part's, and taken out.
func TestBackGoesOnAsAQueue(t *testing.T) {
	eachPart(t, func(t *testing.T, w words, p api.Part, nodes, had []uint64) {
		if p.Kind != api.PartQueue {
			return
		}
		b := open(w)
		rooms.Lay(b, far, far+20, far+40)
		if got := lays(100, p)(b); got != nothing {
			t.Fatal(got)
		}
		want := slices.Clone(had)
		for n := range uint64(3) {
			if err := queue.Put(b, far, 100, 60+n); err != api.OK {
				t.Fatal(err)
			}
			want = append(want, 60+n)
			holds(t, b.words, 100, want...)
		}
		for len(want) > 0 {
			if word, is, err := queue.Take(b, far, 100); word != want[0] || !is || err != api.OK {
				t.Fatalf("Take answers %d, %v, %v, not %d", word, is, err, want[0])
			}
			want = want[1:]
			holds(t, b.words, 100, want...)
		}
		if word, is, err := queue.Take(b, far, 100); word != 0 || is || err != api.OK {
			t.Errorf("Take answers %d, %v, %v", word, is, err)
		}
		gave(t, b.words, far, append([]uint64{far + 24, far + 22, far + 20}, backwards(nodes)...)...)
	})
}

func backwards(list []uint64) []uint64 {
	out := slices.Clone(list)
	slices.Reverse(out)
	return out
}

// P26.5: MaxCells nodes are laid back, and one more are not.
func TestBackOfMany(t *testing.T) {
	b := open(many(api.MaxCells))
	if got := lays(far, api.Part{Kind: api.PartQueue, First: 2, Count: api.MaxCells})(b); got != nothing {
		t.Fatal(got)
	}
	got, err := queue.Words(b, far)
	if err != api.OK || len(got) != api.MaxCells || got[0] != 0 || got[api.MaxCells-1] != api.MaxCells-1 {
		t.Errorf("the queue has %d words, %v", len(got), err)
	}
	const more = api.MaxCells + 1
	b = open(many(more))
	for _, count := range []uint64{more, more - 1} {
		if got := lays(far, api.Part{Kind: api.PartQueue, First: 2, Count: count})(b); got != wrong(api.ErrPart) || b.puts() > 0 {
			t.Errorf("of %d: answers %v", count, got)
		}
	}
}

// P26.5: the part may be laid into another queue than it was taken out of; its header may go round.
func TestBackToAnyQueue(t *testing.T) {
	w, p := chained(api.PartQueue, []uint64{300, 200, 250}, rows[2])
	for _, q := range []uint64{0, 7, top, top - 1, top - 2, 1<<63 - 1} {
		b := open(w)
		if got := lays(q, p)(b); got != nothing {
			t.Errorf("answers %v", got)
		}
		holds(t, b.words, q, rows[2]...)
	}
}
