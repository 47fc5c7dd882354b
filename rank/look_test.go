package rank

import (
	"math"
	"slices"
	"testing"

	"parley/api"
	numbers "parley/word"
)

// P24.2, P24.3: First, Len, All of no entry, of one, of many.
func TestLooks(t *testing.T) {
	for _, p := range places {
		for _, s := range splits {
			for _, list := range rows {
				w, h := built(p, s, list...)
				rising := inOrder(list...)
				looks(t, w, length(h), answer{word: uint64(len(list))})
				looks(t, w, allOf(h), lists(rising...))
				if len(list) == 0 {
					looks(t, w, firstOf(h), nothing)
				} else {
					looks(t, w, firstOf(h), tells(rising[0]))
				}
			}
		}
	}
}

// reals is numbers at all edges, in their order.
var reals = []float64{
	-inf, -math.MaxFloat64, -1e300, -2.5, -1, -1 + 0x1p-53, -2.2250738585072014e-308, -5e-324, minus, 0, 5e-324, 2.2250738585072014e-308, 0.1, 1 - 0x1p-53, 1, 1 + 0x1p-52, 2.5, 1e300, math.MaxFloat64, inf, nan,
}

// nans is the bits of NaN of all kinds.
var nans = []uint64{0x7ff8000000000001, 0x7ff8000000000000, 0x7ff0000000000001, 0x7fffffffffffffff, 0xfff8000000000000, 0xfff0000000000001, top}

// same tells whether two numbers are the same to the last bit, or both are NaN.
func same(a, b float64) bool {
	return math.Float64bits(a) == math.Float64bits(b) || a != a && b != b
}

// P24.4: numbers there and back, to the last bit; of any NaN a NaN. They come out in layer 3's order.
func TestThereAndBack(t *testing.T) {
	bits := slices.Clone(nans)
	for _, x := range reals {
		bits = append(bits, math.Float64bits(x))
	}
	d := drawn(4)
	for range 300 {
		bits = append(bits, d.next()<<40^d.next()<<20^d.next())
	}
	p := place{0, 18, 10000}
	for _, x := range bits {
		b := open(laid(place{0, 18, 40}))
		h, _ := New(b, 0)
		key := math.Float64frombits(x)
		if err := Push(b, 0, h, key, 5); err != api.OK {
			t.Fatal(err)
		}
		first, has, err := First(b, h)
		if !same(first.Key, key) || first.Word != 5 || !has || err != api.OK {
			t.Errorf("First of %x answers %v, %v, %v", x, first, has, err)
		}
		all, err := All(b, h)
		if err != api.OK || len(all) != 1 || !same(all[0].Key, key) || all[0].Word != 5 {
			t.Errorf("All of %x answers %v, %v", x, all, err)
		}
		popped, has, err := Pop(b, 0, h)
		if !same(popped.Key, key) || popped.Word != 5 || !has || err != api.OK {
			t.Errorf("Pop of %x answers %v, %v, %v", x, popped, has, err)
		}
	}
	b := open(laid(p))
	h, _ := New(b, p.room)
	for n, x := range bits {
		if err := Push(b, p.room, h, math.Float64frombits(x), uint64(n)); err != api.OK {
			t.Fatal(err)
		}
	}
	last := math.Inf(-1)
	for range bits {
		r, has, err := Pop(b, p.room, h)
		if !has || err != api.OK || !same(r.Key, math.Float64frombits(bits[r.Word])) || numbers.Compare(last, r.Key) > 0 {
			t.Fatalf("Pop answers %v, %v, %v behind %v", r, has, err, last)
		}
		last = r.Key
	}
	if !math.IsNaN(last) {
		t.Errorf("the last one is %v, no NaN", last)
	}
}

// 'Words': the order: by the numbers, -0 ahead of 0, NaN last, one NaN like another; of one number by the words, as words.
func TestTheOrder(t *testing.T) {
	several := []uint64{0, 1, 1<<63 - 1, 1 << 63, top - 1, top}
	p := place{0, 18, 2000}
	b := open(laid(p))
	h, _ := New(b, p.room)
	for n := range several {
		for k := range reals {
			key := reals[len(reals)-1-k]
			if key != key {
				key = math.Float64frombits(nans[n])
			}
			if err := Push(b, p.room, h, key, several[len(several)-1-n]); err != api.OK {
				t.Fatal(err)
			}
		}
	}
	all, err := All(b, h)
	if err != api.OK || len(all) != len(reals)*len(several) {
		t.Fatalf("All answers %d entries, %v", len(all), err)
	}
	for n, r := range all {
		if !same(r.Key, reals[n/len(several)]) || r.Word != several[n%len(several)] {
			t.Errorf("the entry %d is %v", n, r)
		}
		popped, has, err := Pop(b, p.room, h)
		if !same(popped.Key, r.Key) || popped.Word != r.Word || !has || err != api.OK {
			t.Errorf("Pop answers %v, %v, %v, not %v", popped, has, err, r)
		}
	}
}

// P24.3: what All answers is new memory each time.
func TestMemory(t *testing.T) {
	w, h := built(places[0], halves, rows[len(rows)-1]...)
	b := open(w)
	one, _ := All(b, h)
	want := slices.Clone(one)
	other, _ := All(b, h)
	for n := range one {
		one[n] = api.Ranked{Key: 99, Word: 99}
	}
	_ = append(one[:1], api.Ranked{Key: 98})
	again, err := All(b, h)
	if !slices.Equal(other, want) || !slices.Equal(again, want) || err != api.OK {
		t.Errorf("All answers %v, then %v, %v, behind a change of its answer", other, again, err)
	}
	is(t, b.words, h, rows[len(rows)-1]...)
}

// P24.1 to P24.3: heaps whose own cells go round, and nodes that lie at both ends of the addresses.
func TestHeapsThatGoRound(t *testing.T) {
	// The heap's cells are the last one and 0; its nodes lie at the last ones that a word can lead to, and at 1.
	w := words{top: 2, 0: top - 4}
	w[top-5], w[top-4], w[top-3], w[top-1] = of(-2, 0).key, 8, 2, 1
	w[1], w[2], w[5] = of(3, 0).key, 9, 1
	w.set(100, 30)
	w.set(101, 50)
	looks(t, w, allOf(top), lists(of(-2, 8), of(3, 9)))
	looks(t, w, firstOf(top), tells(of(-2, 8)))
	looks(t, w, length(top), answer{word: 2})
	more := asks(t, w, push(100, top, of(0, 1)), nothing)
	is(t, more, top, of(-2, 8), of(0, 1), of(3, 9))
	less := asks(t, more, pop(100, top), tells(of(-2, 8)))
	is(t, less, top, of(0, 1), of(3, 9))
	holds(t, less, 100, 15, top-5)
	none := asks(t, w, clearAll(100, top), answer{word: 2})
	is(t, none, top)

	// A node whose cells go round: the last two, and 0 to 2.
	w = words{20: 1, 21: top, top - 1: of(5, 0).key, top: 4, 2: 1, 100: 30, 101: 50}
	looks(t, w, allOf(20), lists(of(5, 4)))
	looks(t, w, firstOf(20), tells(of(5, 4)))
	more = asks(t, w, push(100, 20, of(6, 1)), nothing)
	is(t, more, 20, of(5, 4), of(6, 1))
	less = asks(t, more, pop(100, 20), tells(of(5, 4)))
	is(t, less, 20, of(6, 1))
	holds(t, less, 100, 15, top-1)

	// A heap whose cells are the last two joined with one at 0.
	w = words{}
	sow(w, top-1, halves)
	w[top-1], w[top] = 1, 41
	w[40], w[41], w[44] = of(1, 0).key, 6, 1
	sow(w, 0, halves, of(0, 3), of(2, 3))
	w = asks(t, w, joins(top-1, 0), nothing)
	is(t, w, top-1, of(0, 3), of(1, 6), of(2, 3))
	is(t, w, 0)
}

// P24.3: heaps of many entries.
func TestManyEntries(t *testing.T) {
	const many = 3000
	p := place{0, 18, 2 + 18 + 5*many}
	for name, s := range splits {
		var list []entry
		for n := range many {
			list = append(list, of(float64(n*7919%many)/8, uint64(n%7)))
		}
		w, h := built(p, s, list...)
		b := open(w)
		rising := inOrder(list...)
		got, err := All(b, h)
		if err != api.OK || len(got) != many {
			t.Fatalf("%s: All answers %d entries, %v", name, len(got), err)
		}
		for n, r := range got {
			if told(r) != rising[n] {
				t.Fatalf("%s: the entry %d is %v, not %v", name, n, r, rising[n])
			}
		}
		for n, e := range rising {
			r, has, err := Pop(b, p.room, h)
			if told(r) != e || !has || err != api.OK {
				t.Fatalf("%s: the entry %d is %v, %v, %v, not %v", name, n, r, has, err, e)
			}
		}
		is(t, b.words, h)
	}
}
