package list

import (
	"maps"
	"testing"

	"parley/api"
)

// broken is lists at 40 that are not sound, in a room at 0 whose cells are those from 18 on up to below 60.
var broken = []struct {
	name  string
	cells words
}{
	{"the count is too great by one", words{40: 3, 41: 43, 42: 5, 43: 45, 44: 7}},
	{"the count is too great", words{40: top, 41: 43, 42: 5, 43: 45, 44: 7}},
	{"the count is too small", words{40: 1, 41: 43, 42: 5, 43: 45, 44: 7}},
	{"the count is 0", words{40: 0, 41: 43, 42: 5}},
	{"there is a count and no node", words{40: 1}},
	{"there is a great count and no node", words{40: 1 << 63}},
	{"two keys are one", words{40: 2, 41: 43, 42: 5, 43: 45, 44: 5}},
	{"two keys are 0", words{40: 2, 41: 43, 42: 0, 43: 45, 44: 0}},
	{"keys fall", words{40: 2, 41: 43, 42: 7, 43: 45, 44: 5}},
	{"the last keys fall", words{40: 3, 41: 43, 42: 5, 43: 45, 44: 8, 45: 47, 46: 7}},
	{"the first keys fall", words{40: 3, 41: 43, 42: 6, 43: 45, 44: 5, 45: 47, 46: 7}},
	{"keys fall as words", words{40: 2, 41: 43, 42: top, 43: 45, 44: 1}},
	{"a node leads to itself", words{40: 1, 41: 43, 42: 5, 43: 43}},
	{"a node of the greatest key leads to itself", words{40: top, 41: 43, 42: top, 43: 43}},
	{"a node of the key 0 leads to itself", words{40: 2, 41: 43, 43: 43}},
	{"the second node leads to the first one", words{40: 2, 41: 43, 42: 5, 43: 45, 44: 7, 45: 43}},
	{"the second node leads to the first one, and the count is great", words{40: top, 41: 43, 42: 5, 43: 45, 44: 7, 45: 43}},
	{"the third node leads to the second one", words{40: 3, 41: 43, 42: 5, 43: 45, 44: 7, 45: 47, 46: 9, 47: 45}},
	{"the list leads to itself", words{40: 1, 41: 41}},
	{"the list leads to its second cell", words{40: 42, 41: 42}},
	{"a node leads to the list", words{40: 2, 41: 43, 42: 1, 43: 41}},
	{"a node leads into another one", words{40: 3, 41: 43, 42: 5, 43: 44, 44: 46}},
	{"a node leads to the room's header", words{40: 5, 41: 43, 42: 5, 43: 1}},
	{"a node leads to the last cells", words{40: 5, 41: 43, 42: 5, 43: top}},
}

// over is these cells with a room around them.
func over(cells words) words {
	w := laid(place{0, 18, 60})
	for addr := uint64(40); addr < 60; addr++ {
		w.set(addr, cells[addr])
	}
	return w
}

// P21.4: Keys of a list that is not sound; beside it the tx's errors come at once.
func TestKeysOfUnsoundLists(t *testing.T) {
	for _, r := range broken {
		t.Run(r.name, func(t *testing.T) { looks(t, over(r.cells), keys(40), answer{err: api.ErrList}) })
	}
}

// P21.4: all calls on such lists end, and answer the tx's errors at once; who only looks puts nothing.
func TestCallsOnUnsoundLists(t *testing.T) {
	for _, r := range broken {
		t.Run(r.name, func(t *testing.T) {
			w := over(r.cells)
			ends(t, w, length(40), true)
			ends(t, w, first(40), true)
			for _, key := range []uint64{0, 1, 4, 5, 6, 7, 8, 9, 40, 100, top - 1, top} {
				ends(t, w, has(40, key), true)
				ends(t, w, above(40, key), true)
				ends(t, w, insert(0, 40, key), false)
				ends(t, w, remove(0, 40, key), false)
			}
			ends(t, w, clearAll(0, 40), false)
			ends(t, w, drop(0, 40), false)
		})
	}
}

// ends asks a call whatever it answers: that it ends, and answers an error of the tx at once.
func ends(t *testing.T, w words, c call, look bool) {
	t.Helper()
	b := open(w)
	got := c(b)
	if got.err != api.OK && got != (answer{err: got.err}) {
		t.Errorf("answers %v", got)
	}
	if look && b.puts() > 0 {
		t.Errorf("who only looks has put: %v", b.trace)
	}
	if got.err != api.OK && !maps.Equal(b.words, w) {
		t.Errorf("answers %v, and has changed cells", got.err)
	}
	for no := range b.trace {
		refused(t, w, c, no, api.ErrStale, b.trace)
		refused(t, w, c, no, 12345, b.trace)
	}
}

// All lists of three nodes, their keys and where they lead: Keys tells the sound ones, and ErrList of all others.
func TestAllListsOfThreeNodes(t *testing.T) {
	leads := []uint64{0, 43, 45, 47}
	for code := range 4 * 4 * 4 * 4 * 27 * 5 {
		w := words{}
		pick := func(n int) int {
			k := code % n
			code /= n
			return k
		}
		for _, addr := range []uint64{41, 43, 45, 47} {
			w.set(addr, leads[pick(4)])
		}
		for _, addr := range []uint64{42, 44, 46} {
			w.set(addr, uint64(pick(3)))
		}
		w.set(40, uint64(pick(5)))
		want := plainKeys(w, 40)
		if got := keys(40)(open(w)); got != want {
			t.Fatalf("Keys of %v answers %v, not %v", w, got, want)
		}
		for key := range uint64(4) {
			for _, c := range []call{has(40, key), above(40, key), insert(0, 40, key), remove(0, 40, key), clearAll(0, 40), drop(0, 40), first(40)} {
				if b := open(w); c(b).err == api.OK && len(b.trace) > 40 {
					t.Fatalf("a call on %v goes by %d accesses", w, len(b.trace))
				}
			}
		}
	}
}

// plainKeys is what Keys must answer of a few nodes: they are gone over up to one more than the count.
func plainKeys(w words, l uint64) answer {
	var found []uint64
	for next := w[l+1]; next != 0; next = w[next] {
		key := w[next-1]
		if n := len(found); uint64(n) == w[l] || n > 0 && found[n-1] >= key {
			return answer{err: api.ErrList}
		}
		found = append(found, key)
	}
	if uint64(len(found)) != w[l] {
		return answer{err: api.ErrList}
	}
	return answer{list: text(found)}
}

// endless is a tx of nodes without end, whose keys rise: each cell has the address of the one behind it, plus 1.
type endless struct{ asked int }

func (e *endless) Get(addr uint64) (uint64, api.Errno) {
	e.asked++
	return addr + 2, api.OK
}

func (e *endless) Put(uint64, uint64) api.Errno { return api.OK }

// P21.4: Keys goes no further than the count says.
func TestKeysOfNodesWithoutEnd(t *testing.T) {
	tx := &endless{}
	if got := keys(8)(tx); got != (answer{err: api.ErrList}) || tx.asked > 30 {
		t.Errorf("answers %v behind %d gets", got, tx.asked)
	}
	for _, c := range []call{clearAll(0, 8), drop(0, 8), has(8, 100), above(8, 100), first(8), remove(0, 8, 100)} {
		tx = &endless{}
		if c(tx); tx.asked > 300 {
			t.Errorf("ends behind %d gets", tx.asked)
		}
	}
}

// All calls end and none panics, whatever stands in the cells, and whatever they are handed.
func TestAnyCells(t *testing.T) {
	d := drawn(3)
	edges := []uint64{0, 1, 2, 17, 18, 19, 40, 1 << 32, 1 << 63, top - 1, top}
	edge := func() uint64 {
		if d.below(3) > 0 {
			return uint64(d.below(24))
		}
		return edges[d.below(len(edges))]
	}
	for range 60000 {
		b := open(words{})
		for range d.below(40) {
			b.words.set(edge(), edge())
		}
		room, l, key := edge(), edge(), edge()
		calls := []call{lay(room), insert(room, l, key), remove(room, l, key), has(l, key), length(l), above(l, key), first(l), keys(l), clearAll(room, l), drop(room, l)}
		got := calls[d.below(len(calls))](b)
		switch got.err {
		case api.OK:
		case api.ErrList, api.ErrRoom:
			if got != (answer{err: got.err}) || b.puts() > 0 {
				t.Fatalf("answers %v behind %v", got, b.trace)
			}
		default:
			t.Fatalf("answers %v", got.err)
		}
	}
}
