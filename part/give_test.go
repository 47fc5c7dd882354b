package part

import (
	"maps"
	"slices"
	"testing"

	"parley/api"
	rooms "parley/room"
)

// far is where a room's header lies, apart from all parts.
const far = 1 << 45

// P26.4: all nodes are found, both cells of each, ahead of the first put; then each is given back as room gives, the first one first.
func TestGive(t *testing.T) {
	eachPart(t, func(t *testing.T, w words, p api.Part, nodes, had []uint64) {
		for _, given := range []uint64{0, 701} {
			w := w.with(words{far + 3: given, 700: 0})
			var trace []access
			for _, node := range nodes {
				trace = append(trace, get(node), get(node+1))
			}
			b := open(w)
			for _, node := range nodes {
				rooms.Give(b, far, node, 2)
			}
			trace = append(trace, b.trace...)
			goes(t, w, gives(far, p), nothing, trace...)

			want := slices.Clone(nodes)
			slices.Reverse(want)
			if given != 0 {
				want = append(want, given-1)
			}
			gave(t, w.behind(trace), far, want...)
		}
	})
}

// P26.4: what was given back can be taken again: the last node first.
func TestTakeBehindGive(t *testing.T) {
	eachPart(t, func(t *testing.T, w words, p api.Part, nodes, had []uint64) {
		b := open(w)
		if got := gives(far, p)(b); got != nothing {
			t.Fatal(got)
		}
		for n := len(nodes) - 1; n >= 0; n-- {
			if piece, err := rooms.Take(b, far, 2); piece != nodes[n] || err != api.OK {
				t.Errorf("the room gives %d, %v, not %d", piece, err, nodes[n])
			}
		}
		if piece, err := rooms.Take(b, far, 2); err != api.ErrRoom {
			t.Errorf("the room gives %d, %v", piece, err)
		}
	})
}

// P26.4, P26.5: ErrPart as Read answers it, and nothing is put then.
func TestGiveAndBackOfAnotherCount(t *testing.T) {
	eachPart(t, func(t *testing.T, w words, p api.Part, nodes, had []uint64) {
		many := uint64(len(nodes))
		for _, count := range []uint64{0, 1, 2, many - 1, many + 1, many + 2, api.MaxCells, api.MaxCells + 1, 1 << 63, top} {
			if count == many {
				continue
			}
			p.Count = count
			read := open(w)
			if got := reads(p)(read); got != wrong(api.ErrPart) {
				t.Fatalf("Read answers %v", got)
			}
			goes(t, w, gives(far, p), wrong(api.ErrPart), read.trace...)
			if p.Kind != api.PartQueue {
				continue
			}
			trace := asks(t, w, lays(100, p), wrong(api.ErrPart))
			if n := len(trace) - len(read.trace); n < 0 || !slices.Equal(trace[n:], read.trace) {
				t.Errorf("Back goes by %v, and Read by %v", trace, read.trace)
			}
			if b := open(w); lays(100, p)(b) != wrong(api.ErrPart) || b.puts() > 0 {
				t.Errorf("Back has put: %v", b.trace)
			}
		}
	})
}

// P26.4, P26.5: chains that go round, and chains that lead to cells that are not there: nothing is put.
func TestGiveAndBackOfWhatDoesNotHoldTogether(t *testing.T) {
	for _, kind := range kinds {
		calls := func(p api.Part) []call {
			if kind == api.PartQueue {
				return []call{gives(0, p), lays(26, p)}
			}
			return []call{gives(0, p)}
		}
		for _, w := range []words{{21: 21}, {21: 25, 25: 21}, {21: 25, 25: 25}} {
			for _, count := range []uint64{0, 1, 2, 3, 10, 1000, api.MaxCells, api.MaxCells + 1, top} {
				for _, c := range calls(api.Part{Kind: kind, First: 21, Count: count}) {
					b := open(w)
					if got := c(b); got != wrong(api.ErrPart) || b.puts() > 0 || !maps.Equal(b.words, w) {
						t.Errorf("%v of %d: answers %v", w, count, got)
					}
				}
			}
		}
		for _, a := range absent {
			p := a.part
			p.Kind = kind
			cells := a.cells.with(words{26: 0, 27: 0, 28: 0})
			for _, c := range calls(p) {
				b := open(cells)
				if got := c(fewer(b, 30)); got != wrong(api.ErrRange) || b.puts() > 0 {
					t.Errorf("%s: answers %v behind %v", a.name, got, b.trace)
				}
			}
		}
	}
}

// P26.4: of a part without nodes nothing is asked and nothing put.
func TestGiveOfNoNode(t *testing.T) {
	for _, kind := range kinds {
		goes(t, words{far + 3: 8}, gives(far, api.Part{Kind: kind}), nothing)
	}
}

// many is cells with a part of so many nodes, the words 0, 1, 2, ..
func many(count uint64) words {
	w := words{}
	for addr := range 2*count + 1 {
		word, err := line{count}.Get(addr)
		if err == api.OK {
			w.set(addr, word)
		}
	}
	return w
}

// P26.4: MaxCells nodes are given back, and one more are not.
func TestGiveOfMany(t *testing.T) {
	b := open(many(api.MaxCells))
	if got := gives(far, api.Part{Kind: api.PartList, First: 2, Count: api.MaxCells})(b); got != nothing {
		t.Fatal(got)
	}
	var want []uint64
	for n := range uint64(api.MaxCells) {
		want = append(want, 1+2*(api.MaxCells-1-n))
	}
	gave(t, b.words, far, want...)

	const more = api.MaxCells + 1
	b = open(many(more))
	for _, count := range []uint64{more, more - 1} {
		if got := gives(far, api.Part{Kind: api.PartList, First: 2, Count: count})(b); got != wrong(api.ErrPart) || b.puts() > 0 {
			t.Errorf("of %d: answers %v", count, got)
		}
	}
}

// P26.4: rooms whose headers lie at the edges of words, and go round.
func TestGiveToAnyRoom(t *testing.T) {
	w, p := chained(api.PartList, []uint64{300, 200, 250}, rows[2])
	for _, room := range []uint64{0, top, top - 1, top - 3, 1 << 63, 1000} {
		b := open(w)
		if got := gives(room, p)(b); got != nothing {
			t.Errorf("answers %v", got)
		}
		gave(t, b.words, room, 250, 200, 300)
	}
}
