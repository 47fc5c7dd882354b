package room

import (
	"slices"
	"testing"

	"parley/api"
)

// P20.4
func TestLeft(t *testing.T) {
	rows := []struct{ next, to, want uint64 }{
		{20, 30, 10},
		{29, 30, 1},
		{30, 30, 0},
		{31, 30, 0},
		{0, 0, 0},
		{1, 0, 0},
		{0, 1, 1},
		{0, top, top},
		{top, 0, 0},
		{top, top, 0},
		{top - 1, top, 1},
		{top, top - 1, 0},
		{5, 1<<63 + 9, 1<<63 + 4},
		{1<<63 + 9, 5, 0},
		{1 << 32, 1<<33 + 1, 1<<32 + 1},
	}
	for _, r := range rows {
		for _, at := range places {
			goes(t, words{at: r.next, at + 1: r.to}, left(at), fine(r.want), get(at), get(at+1))
		}
	}
	// What was given back is not counted.
	w := words{0: 20, 1: 30}
	for size := uint64(1); size <= 16; size++ {
		w[1+size] = 100 + size
	}
	goes(t, w, left(0), fine(10), get(0), get(1))
}

// chain is cells in which a head leads to these pieces, one behind the other, and how they are found.
func chain(head uint64, pieces ...uint64) (words, []access) {
	w, trace, last := words{}, []access{get(head)}, head
	for _, addr := range pieces {
		w.set(last, addr+1)
		trace = append(trace, get(addr))
		last = addr
	}
	return w, trace
}

// P20.4: no piece, one, many.
func TestGiven(t *testing.T) {
	for _, at := range places {
		for size := uint64(1); size <= 16; size++ {
			for _, pieces := range [][]uint64{nil, {2000}, {2000, 1000}, {1000, 2000, 1500}, {3000, 100, 1 << 40, 200}} {
				w, trace := chain(at+1+size, pieces...)
				goes(t, w, given(at, size), answer{list: text(pieces)}, trace...)
			}
		}
	}
	// The first cell may be a piece's, and the last one but one.
	w, trace := chain(103, 50, 0, top-1, 60)
	goes(t, w, given(100, 2), answer{list: text([]uint64{50, 0, top - 1, 60})}, trace...)
	// The other sizes' pieces are others.
	w, trace = chain(8, 50, 60)
	for n := range uint64(18) {
		if n != 8 {
			w[n] = 40 + n
		}
	}
	goes(t, w, given(0, 7), answer{list: "50 60"}, trace...)
}

// P20.4: the last one that was given back is the first one.
func TestGivenIsTheLastOneFirst(t *testing.T) {
	d := drawn(20)
	for size := uint64(1); size <= Most; size++ {
		b := open(words{})
		Lay(b, 0, 100, 1000)
		var want []uint64
		for n := range 40 {
			addr := 2000 + uint64(n)*20 + d.next()%5
			Give(b, 0, addr, size)
			want = slices.Insert(want, 0, addr)
			if got, err := Given(b, 0, size); !slices.Equal(got, want) || err != api.OK {
				t.Fatalf("Given(%d) answers %v, %v, not %v", size, got, err, want)
			}
		}
	}
}

// P20.4: sizes that may not be.
func TestGivenOfNoSize(t *testing.T) {
	for _, size := range wrongSizes {
		for _, at := range places {
			errs(t, given(at, size), api.ErrArg)
		}
	}
}

// many is so many pieces, one behind the other, of which none leads back.
func many(n int) []uint64 {
	l := make([]uint64, n)
	for k := range l {
		l[k] = 1000 + 3*uint64(n-k)
	}
	return l
}

// P20.4: as many pieces as there may be, one fewer, one more.
func TestGivenOfManyPieces(t *testing.T) {
	for _, n := range []int{api.MaxCells - 1, api.MaxCells, api.MaxCells + 1, api.MaxCells + 2} {
		w, trace := chain(5, many(n)...)
		want := answer{list: text(many(n))}
		if n > api.MaxCells {
			want, trace = answer{err: api.ErrArg}, trace[:1+api.MaxCells]
		}
		b := open(w)
		if got := given(0, 4)(b); got != want {
			t.Errorf("of %d pieces: Given answers %.60s.., %v", n, got.list, got.err)
		}
		if !slices.Equal(b.trace, trace) {
			t.Errorf("of %d pieces: %d gets, not %d", n, len(b.trace), len(trace))
		}
		for _, no := range []int{0, 1, n / 2, len(trace) - 1} {
			refused(t, w, given(0, 4), no, api.ErrStale, trace)
		}
	}
}

// P20.4: lists that go round.
func TestGivenThatGoesRound(t *testing.T) {
	rings := []struct {
		name   string
		pieces []uint64
		back   int
	}{
		{"a piece that leads to itself", []uint64{50}, 0},
		{"two that lead to one another", []uint64{50, 60}, 0},
		{"two, of which the last one leads to itself", []uint64{50, 60}, 1},
		{"some, of which the last one leads into them", []uint64{50, 60, 55, 90, 30}, 2},
		{"the head itself is a piece", []uint64{5}, 0},
		{"as many as may be, the last one leads to the first", many(api.MaxCells), 0},
		{"as many as may be, the last one leads to itself", many(api.MaxCells), api.MaxCells - 1},
	}
	for _, r := range rings {
		t.Run(r.name, func(t *testing.T) {
			w, _ := chain(5, r.pieces...)
			w[r.pieces[len(r.pieces)-1]] = r.pieces[r.back] + 1
			b := open(w)
			if got := given(0, 4)(b); got != (answer{err: api.ErrArg}) {
				t.Errorf("Given answers %.60s.., %v", got.list, got.err)
			}
			if len(b.trace) != 1+api.MaxCells {
				t.Errorf("it has got %d cells", len(b.trace))
			}
			for _, no := range []int{0, 1, 2, 1000, api.MaxCells} {
				refused(t, w, given(0, 4), no, api.ErrFull, b.trace)
			}
		})
	}
}

// An answer is new memory, spare room included.
func TestGivenIsNew(t *testing.T) {
	b := open(words{})
	Lay(b, 0, 100, 1000)
	for n := range uint64(37) {
		Give(b, 0, 2000+3*n, 3)
	}
	one, _ := Given(b, 0, 3)
	two, _ := Given(b, 0, 3)
	kept := slices.Clone(two)
	one = one[:cap(one)]
	for n := range one {
		one[n] = 77
	}
	if !slices.Equal(two, kept) {
		t.Errorf("%v has changed to %v", kept, two)
	}
	if three, _ := Given(b, 0, 3); !slices.Equal(three, kept) {
		t.Errorf("Given answers %v now, not %v", three, kept)
	}
	// A piece that is given back later does not come into an answer's spare room.
	three, _ := Given(b, 0, 3)
	spare := slices.Clone(three[:cap(three)])
	Give(b, 0, 5000, 3)
	Given(b, 0, 3)
	if !slices.Equal(three[:cap(three)], spare) {
		t.Errorf("%v has changed to %v", spare, three[:cap(three)])
	}
}
