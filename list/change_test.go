package list

import (
	"maps"
	"slices"
	"testing"

	"parley/api"
)

// P21.3: Insert at the front, amid, at the end, of keys that are there, of 0 and of the greatest word.
func TestInsert(t *testing.T) {
	rows := []struct {
		had  []uint64
		key  uint64
		want answer
		has  []uint64
	}{
		{nil, 5, yes, []uint64{5}},
		{nil, 0, yes, []uint64{0}},
		{nil, top, yes, []uint64{top}},
		{[]uint64{5}, 2, yes, []uint64{2, 5}},
		{[]uint64{5}, 9, yes, []uint64{5, 9}},
		{[]uint64{5}, 4, yes, []uint64{4, 5}},
		{[]uint64{5}, 6, yes, []uint64{5, 6}},
		{[]uint64{5}, 5, no, []uint64{5}},
		{[]uint64{0}, 0, no, []uint64{0}},
		{[]uint64{0}, 1, yes, []uint64{0, 1}},
		{[]uint64{1}, 0, yes, []uint64{0, 1}},
		{[]uint64{top}, top, no, []uint64{top}},
		{[]uint64{top}, top - 1, yes, []uint64{top - 1, top}},
		{[]uint64{top - 1}, top, yes, []uint64{top - 1, top}},
		{[]uint64{5, 9, 2}, 0, yes, []uint64{0, 2, 5, 9}},
		{[]uint64{5, 9, 2}, 3, yes, []uint64{2, 3, 5, 9}},
		{[]uint64{5, 9, 2}, 7, yes, []uint64{2, 5, 7, 9}},
		{[]uint64{5, 9, 2}, 10, yes, []uint64{2, 5, 9, 10}},
		{[]uint64{5, 9, 2}, 2, no, []uint64{2, 5, 9}},
		{[]uint64{5, 9, 2}, 5, no, []uint64{2, 5, 9}},
		{[]uint64{5, 9, 2}, 9, no, []uint64{2, 5, 9}},
		{[]uint64{1<<63 - 1, 1 << 63}, 1<<63 + 1, yes, []uint64{1<<63 - 1, 1 << 63, 1<<63 + 1}},
		{[]uint64{1 << 63}, 1<<63 - 1, yes, []uint64{1<<63 - 1, 1 << 63}},
		{[]uint64{1 << 32}, 1<<33 - 1, yes, []uint64{1 << 32, 1<<33 - 1}},
	}
	for _, p := range places {
		for _, r := range rows {
			had, l := built(p, r.had...)
			w := asks(t, had, insert(p.room, l, r.key), r.want)
			is(t, w, l, r.has...)
			holds(t, w, p.room, p.to-p.from-2-2*uint64(len(r.has)))
			if r.want == no && !maps.Equal(w, had) {
				t.Errorf("Insert of %d, which is there, has changed cells", r.key)
			}
		}
	}
}

// P21.3: Remove at the front, amid, at the end, of keys that are not there, of 0 and of the greatest word: the node's cells are given back.
func TestRemove(t *testing.T) {
	rows := []struct {
		had  []uint64
		key  uint64
		node int // the one that is given back (-1: none)
		has  []uint64
	}{
		{nil, 5, -1, nil},
		{nil, 0, -1, nil},
		{nil, top, -1, nil},
		{[]uint64{5}, 5, 0, nil},
		{[]uint64{0}, 0, 0, nil},
		{[]uint64{top}, top, 0, nil},
		{[]uint64{5}, 4, -1, []uint64{5}},
		{[]uint64{5}, 6, -1, []uint64{5}},
		{[]uint64{5}, 0, -1, []uint64{5}},
		{[]uint64{5}, top, -1, []uint64{5}},
		{[]uint64{5, 9, 2}, 2, 2, []uint64{5, 9}},
		{[]uint64{5, 9, 2}, 5, 0, []uint64{2, 9}},
		{[]uint64{5, 9, 2}, 9, 1, []uint64{2, 5}},
		{[]uint64{5, 9, 2}, 0, -1, []uint64{2, 5, 9}},
		{[]uint64{5, 9, 2}, 3, -1, []uint64{2, 5, 9}},
		{[]uint64{5, 9, 2}, 10, -1, []uint64{2, 5, 9}},
		{[]uint64{top, 1 << 63, 0}, 1 << 63, 1, []uint64{0, top}},
		{[]uint64{top, 1 << 63, 0}, top, 0, []uint64{0, 1 << 63}},
		{[]uint64{top, 1 << 63, 0}, 0, 2, []uint64{1 << 63, top}},
	}
	for _, p := range places {
		for _, r := range rows {
			had, l := built(p, r.had...)
			want, given := no, []uint64(nil)
			if r.node >= 0 {
				want, given = yes, []uint64{l + 2 + 2*uint64(r.node)}
			}
			w := asks(t, had, remove(p.room, l, r.key), want)
			is(t, w, l, r.has...)
			holds(t, w, p.room, p.to-p.from-2-2*uint64(len(r.had)), given...)
			if want == no && !maps.Equal(w, had) {
				t.Errorf("Remove of %d, which is not there, has changed cells", r.key)
			}
		}
	}
}

// P21.3: the cells that were given back last come next; then those that were never taken.
func TestWhichCellsComeNext(t *testing.T) {
	for _, p := range places {
		w, l := built(p, 10, 20, 30)
		w = asks(t, w, remove(p.room, l, 10), yes)
		w = asks(t, w, remove(p.room, l, 30), yes)
		for n, node := range []uint64{l + 6, l + 2, l + 8, l + 10} {
			key := 40 + uint64(n)
			w = asks(t, w, insert(p.room, l, key), yes)
			nodes := chain(t, w, l)
			if got := nodes[len(nodes)-1]; got != node {
				t.Errorf("the node of %d lies at %d, not at %d", key, got, node)
			}
		}
		is(t, w, l, 20, 40, 41, 42, 43)
	}
}

// P21.1: Insert when no cells are left: nothing was put; a key that is there needs none, and one that was taken out leaves some.
func TestInsertWithoutRoom(t *testing.T) {
	for _, p := range places {
		for extra := uint64(0); extra < 2; extra++ {
			p.to = p.from + 6 + extra
			w, l := built(p, 7, 3)
			for _, key := range []uint64{0, 4, 8, top} {
				after := asks(t, w, insert(p.room, l, key), answer{err: api.ErrRoom})
				if !maps.Equal(after, w) {
					t.Errorf("Insert of %d was refused, and has changed cells", key)
				}
			}
			asks(t, w, insert(p.room, l, 3), no)
			w = asks(t, w, remove(p.room, l, 7), yes)
			w = asks(t, w, insert(p.room, l, 9), yes)
			is(t, w, l, 3, 9)
			holds(t, w, p.room, extra)
		}
	}
}

// P21.5: Clear: how many they were, and the order in which the cells are given back.
func TestClear(t *testing.T) {
	rows := []struct {
		had   []uint64
		given []int
	}{
		{nil, nil},
		{[]uint64{7}, []int{0}},
		{[]uint64{0}, []int{0}},
		{[]uint64{1, 2, 3, 4}, []int{3, 2, 1, 0}},
		{[]uint64{4, 3, 2, 1}, []int{0, 1, 2, 3}},
		{[]uint64{5, 2, top, 0}, []int{2, 0, 1, 3}},
	}
	for _, p := range places {
		for _, r := range rows {
			had, l := built(p, r.had...)
			n := uint64(len(r.had))
			w := asks(t, had, clearAll(p.room, l), answer{word: n})
			is(t, w, l)
			var given []uint64
			for _, node := range r.given {
				given = append(given, l+2+2*uint64(node))
			}
			holds(t, w, p.room, p.to-p.from-2-2*n, given...)
			looks(t, w, clearAll(p.room, l), no)
			w = asks(t, w, insert(p.room, l, 6), yes)
			is(t, w, l, 6)
			if len(given) > 0 && chain(t, w, l)[0] != given[0] {
				t.Errorf("the node lies at %v, not at %d", chain(t, w, l), given[0])
			}
		}
	}
}

// All lists of some small keys: each key put in, taken out, and looked for.
func TestAllSmallLists(t *testing.T) {
	const most = 5
	p := places[0]
	for set := range 1 << most {
		var had []uint64
		for key := range uint64(most) {
			if set>>key&1 == 1 {
				had = append(had, 2*key)
			}
		}
		for key := range uint64(2 * most) {
			w, l := built(p, had...)
			at, there := slices.BinarySearch(had, key)
			looks(t, w, has(l, key), answer{has: there})
			with := asks(t, w, insert(p.room, l, key), answer{has: !there})
			without := asks(t, w, remove(p.room, l, key), answer{has: there})
			if there {
				is(t, with, l, had...)
				is(t, without, l, slices.Delete(slices.Clone(had), at, at+1)...)
			} else {
				is(t, with, l, slices.Insert(slices.Clone(had), at, key)...)
				is(t, without, l, had...)
			}
		}
	}
}
