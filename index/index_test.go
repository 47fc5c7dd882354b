package index

import (
	"maps"
	"math"
	"math/bits"
	"slices"
	"strconv"
	"testing"

	"parley/api"
)

const top = math.MaxUint64

// drawn is a row of numbers that looks drawn, and is the same each time.
type drawn uint64

func (d *drawn) next() uint64 {
	*d = *d*6364136223846793005 + 1442695040888963407
	return uint64(*d >> 33)
}

// below is a number from 0 to n - 1.
func (d *drawn) below(n int) int { return int(d.next() % uint64(n)) }

// homed tells n keys, rising, whose home at 8 slots is this one.
func homed(home, n int) []uint64 {
	var keys []uint64
	for key := uint64(0); len(keys) < n; key++ {
		if homeOf(key, 8) == home {
			keys = append(keys, key)
		}
	}
	return keys
}

// homeOf is the chapter's home, without shifts: of the product's lower half, as a part of 2^64, so many slots.
func homeOf(key uint64, slots int) int {
	_, part := bits.Mul64(key, 11400714819323198485)
	home, _ := bits.Mul64(part, uint64(slots))
	return int(home)
}

// model does what the chapter's section 'Words' says, word by word.
type model struct {
	slots  []*uint64
	values map[uint64]int
	order  []uint64
}

func newModel() *model { return &model{slots: make([]*uint64, 8), values: map[uint64]int{}} }

// walk tells all slots, as a key comes to them.
func (m *model) walk(key uint64) []int {
	walk := make([]int, len(m.slots))
	home := homeOf(key, len(m.slots))
	for n := range walk {
		walk[n] = (home + n) % len(walk)
	}
	return walk
}

// look tells the slot where a look for a key ends, and how many slots it asks.
func (m *model) look(key uint64) (int, int) {
	for n, slot := range m.walk(key) {
		if at := m.slots[slot]; at == nil || *at == key {
			return slot, n + 1
		}
	}
	panic("a look that does not end")
}

func (m *model) put(key uint64, value int) {
	if _, had := m.values[key]; !had {
		if 4*(len(m.order)+1) > 3*len(m.slots) {
			m.slots = make([]*uint64, 2*len(m.slots))
			for _, k := range m.order {
				slot, _ := m.look(k)
				m.slots[slot] = &k
			}
		}
		slot, _ := m.look(key)
		m.slots[slot] = &key
		m.order = append(m.order, key)
	}
	m.values[key] = value
}

func (m *model) take(key uint64) {
	if _, had := m.values[key]; !had {
		return
	}
	free, _ := m.look(key)
	m.slots[free] = nil
	for at := (free + 1) % len(m.slots); m.slots[at] != nil; at = (at + 1) % len(m.slots) {
		walk := m.walk(*m.slots[at])
		if slices.Index(walk, free) < slices.Index(walk, at) {
			m.slots[free], m.slots[at] = m.slots[at], nil
			free = at
		}
	}
	delete(m.values, key)
	m.order = slices.DeleteFunc(m.order, func(k uint64) bool { return k == key })
}

func (m *model) copy() *model {
	return &model{slices.Clone(m.slots), maps.Clone(m.values), slices.Clone(m.order)}
}

// same holds a table against a model, in all that it answers, of these keys and of those that are there.
func same(t *testing.T, x *Table[int], m *model, keys []uint64) {
	t.Helper()
	if x.Len() != len(m.order) || x.Slots() != len(m.slots) {
		t.Fatalf("%d keys in %d slots, not %d in %d", x.Len(), x.Slots(), len(m.order), len(m.slots))
	}
	if 4*x.Len() > 3*x.Slots() {
		t.Fatalf("%d keys in %d slots", x.Len(), x.Slots())
	}
	if !slices.Equal(x.Keys(), m.order) {
		t.Fatalf("Keys is %v, not %v", x.Keys(), m.order)
	}
	n := 0
	for key, value := range x.All() {
		if n == len(m.order) || key != m.order[n] || value != m.values[key] {
			t.Fatalf("All tells %d, %d at %d of %v", key, value, n, m.order)
		}
		n++
	}
	if n != len(m.order) {
		t.Fatalf("All tells %d of %v", n, m.order)
	}
	for _, key := range slices.Concat(keys, m.order) {
		want, had := m.values[key]
		if value, ok := x.Get(key); value != want || ok != had {
			t.Fatalf("Get(%d) is %d, %v, not %d, %v", key, value, ok, want, had)
		}
		if _, asked := m.look(key); x.Asked(key) != asked {
			t.Fatalf("Asked(%d) is %d, not %d", key, x.Asked(key), asked)
		}
	}
}

// put puts a key that is not there, or ends the test.
func put[V comparable](t *testing.T, x *Table[V], key uint64, value V) {
	t.Helper()
	var none V
	if old, had, err := x.Put(key, value); old != none || had || err != api.OK {
		t.Fatalf("Put(%d) is %v, %v, %v", key, old, had, err)
	}
}

// asked asks how many slots looks for keys ask.
func asked[V any](t *testing.T, x *Table[V], keys []uint64, want ...int) {
	t.Helper()
	var got []int
	for _, key := range keys {
		got = append(got, x.Asked(key))
	}
	if !slices.Equal(got, want) {
		t.Errorf("the looks for %v ask %v slots, not %v", keys, got, want)
	}
}

func TestNew(t *testing.T) {
	x, y := New[int](), New[int]()
	same(t, x, newModel(), []uint64{0, 1, 2, top})
	put(t, x, 1, 1)
	same(t, y, newModel(), []uint64{1})
}

func TestPut(t *testing.T) { // P4.1
	x, m := New[int](), newModel()
	for n, key := range []uint64{7, 0, top, 1 << 63, 3} {
		put(t, x, key, n+1)
		m.put(key, n+1)
		same(t, x, m, []uint64{1, 2, 5})
	}
	for n, key := range []uint64{top, 3, 7, 7, 0} {
		old, had, err := x.Put(key, n+100)
		if old != m.values[key] || !had || err != api.OK {
			t.Errorf("Put(%d) again is %d, %v, %v", key, old, had, err)
		}
		m.put(key, n+100)
		same(t, x, m, []uint64{1, 2, 5})
	}
	if !slices.Equal(x.Keys(), []uint64{7, 0, top, 1 << 63, 3}) {
		t.Errorf("Keys is %v", x.Keys())
	}
}

func TestPutZeroes(t *testing.T) { // a value that is zero is there all the same
	x := New[string]()
	put(t, x, 0, "")
	if old, had, err := x.Put(0, "a"); old != "" || !had || err != api.OK {
		t.Errorf("Put is %q, %v, %v", old, had, err)
	}
	if old, had, err := x.Put(0, ""); old != "a" || !had || err != api.OK {
		t.Errorf("Put is %q, %v, %v", old, had, err)
	}
	if value, ok := x.Get(0); value != "" || !ok || x.Len() != 1 {
		t.Errorf("Get is %q, %v", value, ok)
	}
}

func TestPutDoublesSlots(t *testing.T) { // P4.1
	x, m := New[int](), newModel()
	slots := 8
	for n := range uint64(3000) {
		key := n * n * 7919
		ahead := x.Slots()
		// One more key would be too many at three quarters: a key that is there is not one more.
		if n > 0 {
			x.Put(0, int(n))
			m.put(0, int(n))
		}
		if x.Slots() != ahead {
			t.Fatalf("a key put again: %d slots, then %d", ahead, x.Slots())
		}
		put(t, x, key, int(n))
		m.put(key, int(n))
		if 4*int(n+1) > 3*slots {
			slots *= 2
		}
		if x.Slots() != slots || x.Len() != int(n+1) {
			t.Fatalf("%d keys in %d slots, not %d", x.Len(), x.Slots(), slots)
		}
	}
	same(t, x, m, nil)
	for _, c := range []struct{ keys, slots int }{{6, 8}, {7, 16}, {12, 16}, {13, 32}, {24, 32}, {25, 64}} {
		x := New[bool]()
		for n := range c.keys {
			put(t, x, uint64(n), true)
		}
		if x.Slots() != c.slots {
			t.Errorf("%d keys have %d slots, not %d", c.keys, x.Slots(), c.slots)
		}
	}
}

func TestPutAnewInOrder(t *testing.T) { // P4.1: of one home, the last slot at 8 and at 16: slots from the first one on are another order
	var keys []uint64
	for key := uint64(0); len(keys) < 6; key++ {
		if homeOf(key, 16) == 15 {
			keys = append(keys, key)
		}
	}
	late, between := keys[5], homed(3, 1)[0]
	for _, order := range [][]uint64{keys[:5], {keys[4], keys[0], keys[3], keys[1], keys[2]}} {
		x := New[int]()
		for _, key := range order {
			put(t, x, key, 1)
		}
		x.Take(order[0])
		put(t, x, order[0], 1)
		order = append(slices.Clone(order[1:]), order[0])
		asked(t, x, order, 1, 2, 3, 4, 5)
		put(t, x, between, 1)
		put(t, x, late, 1)
		if x.Slots() != 16 {
			t.Fatalf("%d slots", x.Slots())
		}
		asked(t, x, append(order, late, between), 1, 2, 3, 4, 5, 6, 1)
	}
}

func TestGet(t *testing.T) { // P4.2
	x := New[string]()
	sixes := homed(6, 4)
	for n, key := range sixes[:3] {
		put(t, x, key, strconv.Itoa(n))
	}
	for n, key := range sixes[:3] {
		for range 2 {
			if value, ok := x.Get(key); value != strconv.Itoa(n) || !ok {
				t.Errorf("Get(%d) is %q, %v", key, value, ok)
			}
		}
	}
	for _, key := range []uint64{sixes[3], top, homed(0, 1)[0], homed(2, 1)[0]} {
		if value, ok := x.Get(key); value != "" || ok {
			t.Errorf("Get(%d) is %q, %v", key, value, ok)
		}
	}
	x.Take(sixes[1])
	if value, ok := x.Get(sixes[1]); value != "" || ok {
		t.Errorf("Get of a key that was taken is %q, %v", value, ok)
	}
	if value, ok := x.Get(sixes[2]); value != "2" || !ok || x.Len() != 2 {
		t.Errorf("Get of a key behind it is %q, %v", value, ok)
	}
}

func TestTake(t *testing.T) { // P4.2
	x := New[string]()
	put(t, x, 4, "a")
	put(t, x, 5, "b")
	for _, key := range []uint64{0, 6, top} {
		if value, ok := x.Take(key); value != "" || ok || x.Len() != 2 {
			t.Errorf("Take(%d) is %q, %v", key, value, ok)
		}
	}
	if value, ok := x.Take(4); value != "a" || !ok || x.Len() != 1 {
		t.Errorf("Take(4) is %q, %v", value, ok)
	}
	if value, ok := x.Take(4); value != "" || ok || x.Len() != 1 {
		t.Errorf("Take(4) once more is %q, %v", value, ok)
	}
	put(t, x, 4, "c")
	if !slices.Equal(x.Keys(), []uint64{5, 4}) {
		t.Errorf("a key that was taken and came again: %v", x.Keys())
	}
}

func TestTakeMovesUp(t *testing.T) { // P4.2
	for _, c := range []struct {
		what  string
		homes []int // of the keys, in their order
		asked []int
		take  int
		then  []int // of all keys, the taken one too
	}{
		{"all of one home", []int{3, 3, 3}, []int{1, 2, 3}, 0, []int{3, 1, 2}},
		{"the middle one of a home", []int{3, 3, 3}, []int{1, 2, 3}, 1, []int{1, 3, 2}},
		{"the last one of a home", []int{3, 3, 3}, []int{1, 2, 3}, 2, []int{1, 2, 3}},
		{"one at home stays, another passes it", []int{3, 4, 3}, []int{1, 1, 3}, 0, []int{3, 1, 1}},
		{"one that was passed", []int{3, 4, 3}, []int{1, 1, 3}, 1, []int{1, 2, 2}},
		{"one behind another one that moves", []int{3, 3, 4, 5}, []int{1, 2, 2, 2}, 0, []int{4, 1, 1, 1}},
		{"two homes by turns", []int{2, 3, 2, 3, 5}, []int{1, 1, 3, 3, 2}, 0, []int{5, 1, 1, 2, 1}},
		{"not beyond a free slot", []int{3, 5, 5}, []int{1, 1, 2}, 0, []int{1, 1, 2}},
		{"behind the last slot comes the first one", []int{7, 7, 7, 0}, []int{1, 2, 3, 3}, 0, []int{4, 1, 2, 2}},
		{"one at the first slot moves to the last one", []int{6, 7, 6, 0}, []int{1, 1, 3, 2}, 0, []int{4, 1, 1, 1}},
		{"one at home at the first slot stays", []int{7, 0, 0}, []int{1, 1, 2}, 0, []int{1, 1, 2}},
		{"one of the last slot's home at the second one", []int{7, 0, 7}, []int{1, 1, 3}, 1, []int{1, 2, 2}},
		{"behind a gap at the first slot", []int{7, 7, 1, 7, 0}, []int{1, 2, 1, 4, 4}, 1, []int{1, 5, 1, 2, 3}},
	} {
		x, m := New[int](), newModel()
		var keys []uint64
		for n, home := range c.homes {
			same := 0
			for _, h := range c.homes[:n] {
				if h == home {
					same++
				}
			}
			key := homed(home, same+1)[same]
			keys = append(keys, key)
			put(t, x, key, n)
			m.put(key, n)
		}
		t.Run(c.what, func(t *testing.T) {
			asked(t, x, keys, c.asked...)
			if value, ok := x.Take(keys[c.take]); value != c.take || !ok {
				t.Errorf("Take is %d, %v", value, ok)
			}
			m.take(keys[c.take])
			same(t, x, m, keys)
			asked(t, x, keys, c.then...)
		})
	}
}

func TestSlotsNeverFewer(t *testing.T) { // P4.3
	x := New[int]()
	for n := range uint64(100) {
		put(t, x, n, 1)
	}
	if x.Slots() != 256 {
		t.Fatalf("100 keys have %d slots", x.Slots())
	}
	for n := range uint64(100) {
		x.Take(n)
		if x.Slots() != 256 || x.Len() != int(99-n) {
			t.Fatalf("%d keys have %d slots", x.Len(), x.Slots())
		}
	}
	// So many keys at a time, not so many puts, make the slots more.
	y := New[int]()
	for n := range uint64(1000) {
		put(t, y, n, 1)
		if n >= 5 {
			y.Take(n - 5)
		}
	}
	if y.Slots() != 8 || y.Len() != 5 {
		t.Errorf("%d keys have %d slots", y.Len(), y.Slots())
	}
}

func TestAsked(t *testing.T) { // P4.3
	x := New[int]()
	asked(t, x, []uint64{0, 1, 2, top}, 1, 1, 1, 1)
	sevens, ones := homed(7, 3), homed(1, 2)
	put(t, x, sevens[0], 0)
	put(t, x, sevens[1], 0)
	put(t, x, ones[0], 0)
	asked(t, x, []uint64{sevens[0], sevens[1], sevens[2], ones[0], ones[1], homed(0, 1)[0], homed(3, 1)[0]}, 1, 2, 4, 1, 2, 3, 1)
	if x.Len() != 3 {
		t.Errorf("Asked has put a key: %v", x.Keys())
	}
}

func TestHome(t *testing.T) { // P4.3
	for key, want := range []int{0, 4, 1, 6, 3, 0, 5, 2, 7} {
		if home, err := Home(uint64(key), 8); home != want || err != api.OK {
			t.Errorf("Home(%d, 8) is %d, %v", key, home, err)
		}
	}
	var d drawn
	keys := []uint64{0, 1, 2, 1 << 31, 1 << 32, 1 << 63, top - 1, top}
	for range 50 {
		keys = append(keys, d.next()<<33^d.next())
	}
	for _, key := range keys {
		for slots := 8; slots > 0; slots *= 2 {
			if home, err := Home(key, slots); home != homeOf(key, slots) || err != api.OK {
				t.Errorf("Home(%d, %d) is %d, %v", key, slots, home, err)
			}
		}
		for _, slots := range []int{math.MinInt, -16, -8, -7, -1, 0, 1, 2, 3, 4, 5, 6, 7, 9, 10, 12, 15, 17, 24, 31, 96, 1000, 1<<40 + 1, 1<<40 - 1, math.MaxInt} {
			if home, err := Home(key, slots); home != 0 || err != api.ErrArg {
				t.Errorf("Home(%d, %d) is %d, %v", key, slots, home, err)
			}
		}
	}
}

// told goes through a table, up to so many keys.
func told(x *Table[int], most int) (keys []uint64, values []int) {
	for key, value := range x.All() {
		keys, values = append(keys, key), append(values, value)
		if len(keys) == most {
			break
		}
	}
	return keys, values
}

func TestAll(t *testing.T) { // P4.4
	x := New[int]()
	if keys, _ := told(x, 9); keys != nil {
		t.Errorf("All of an empty table tells %v", keys)
	}
	come := []uint64{5, 2, top, 7, 0}
	for n, key := range come {
		put(t, x, key, n*10)
	}
	x.Put(2, 11)
	for range 2 {
		for most := 1; most <= len(come); most++ {
			keys, values := told(x, most)
			if !slices.Equal(keys, come[:most]) || !slices.Equal(values, []int{0, 11, 20, 30, 40}[:most]) {
				t.Errorf("All, left at %d, tells %v, %v", most, keys, values)
			}
		}
	}
	// One walk, gone through more than once, tells what is there each time when its loop begins.
	all := x.All()
	x.Take(2)
	x.Put(9, 90)
	for range 2 {
		got := map[uint64]int{}
		for key, value := range all {
			got[key] = value
		}
		if !maps.Equal(got, map[uint64]int{5: 0, top: 20, 7: 30, 0: 40, 9: 90}) {
			t.Errorf("All tells %v", got)
		}
	}
	for range all {
		inner := 0
		for range all {
			inner++
		}
		if inner != 5 {
			t.Errorf("a walk within a walk tells %d keys", inner)
		}
	}
}

func TestAllOfWhatWas(t *testing.T) { // P4.4
	for _, c := range []struct {
		what   string
		change func(x *Table[int], key uint64)
		then   []uint64
	}{
		{"take what was told", func(x *Table[int], key uint64) { x.Take(key) }, nil},
		{"take what comes next", func(x *Table[int], key uint64) { x.Take(key + 1) }, []uint64{0}},
		{"take all", func(x *Table[int], key uint64) {
			for _, k := range x.Keys() {
				x.Take(k)
			}
		}, nil},
		{"put others", func(x *Table[int], key uint64) { x.Put(key+4, 1) }, []uint64{0, 1, 2, 3, 4, 5, 6, 7}},
		{"put again", func(x *Table[int], key uint64) { x.Put(key+1, -1) }, []uint64{0, 1, 2, 3, 4}},
		{"clear", func(x *Table[int], key uint64) { x.Clear() }, nil},
		{"take and put", func(x *Table[int], key uint64) { x.Take(key); x.Put(key, -1) }, []uint64{0, 1, 2, 3}},
	} {
		x := New[int]()
		for n := range 4 {
			put(t, x, uint64(n), n)
		}
		var keys []uint64
		var values []int
		for key, value := range x.All() {
			keys, values = append(keys, key), append(values, value)
			c.change(x, key)
		}
		if !slices.Equal(keys, []uint64{0, 1, 2, 3}) || !slices.Equal(values, []int{0, 1, 2, 3}) {
			t.Errorf("%s: All tells %v, %v", c.what, keys, values)
		}
		if !slices.Equal(x.Keys(), c.then) {
			t.Errorf("%s: then there is %v", c.what, x.Keys())
		}
	}
}

func TestKeys(t *testing.T) { // P4.4, P4.7
	x := New[int]()
	if keys := x.Keys(); len(keys) != 0 {
		t.Errorf("Keys of an empty table is %v", keys)
	}
	for _, key := range []uint64{9, 4, 6} {
		put(t, x, key, 0)
	}
	keys := x.Keys()
	if !slices.Equal(keys, []uint64{9, 4, 6}) || cap(keys) != 3 {
		t.Errorf("Keys is %v, with room for %d", keys, cap(keys))
	}
	other := x.Keys()
	keys[0] = 1
	if !slices.Equal(x.Keys(), []uint64{9, 4, 6}) || other[0] != 9 {
		t.Errorf("a change of an answer: %v, %v", x.Keys(), other)
	}
	x.Take(4)
	x.Put(8, 0)
	if !slices.Equal(other, []uint64{9, 4, 6}) || !slices.Equal(x.Keys(), []uint64{9, 6, 8}) {
		t.Errorf("behind a change: %v, %v", other, x.Keys())
	}
}

func TestClear(t *testing.T) { // P4.4
	x, m := New[int](), newModel()
	x.Clear()
	same(t, x, m, []uint64{0, 1})
	for n := range uint64(50) {
		put(t, x, n, 1)
	}
	c := x.Copy()
	x.Clear()
	same(t, x, m, []uint64{0, 1, 49, 50})
	if c.Len() != 50 || c.Slots() != 128 {
		t.Errorf("the copy has %d keys in %d slots", c.Len(), c.Slots())
	}
	for n := range uint64(7) {
		put(t, x, 5*n, int(n))
		m.put(5*n, int(n))
		same(t, x, m, []uint64{0, 1, 49, 50})
	}
	x.Take(10)
	x.Clear()
	same(t, x, newModel(), []uint64{0, 5, 10})
}

func TestCopy(t *testing.T) { // P4.5
	var none *Table[int]
	if none.Copy() != nil {
		t.Error("a copy of what is not there")
	}
	e := New[int]()
	c := e.Copy()
	same(t, c, newModel(), []uint64{0, 1})
	put(t, c, 1, 1)
	same(t, e, newModel(), []uint64{0, 1})

	x, m := New[int](), newModel()
	for n := range uint64(20) {
		put(t, x, n%10*8+n, int(n))
		m.put(n%10*8+n, int(n))
	}
	for n := range uint64(20) {
		if n%3 == 0 {
			x.Take(n%10*8 + n)
			m.take(n%10*8 + n)
		}
	}
	var keys []uint64
	for n := range uint64(100) {
		keys = append(keys, n)
	}
	c, mc := x.Copy(), m.copy()
	same(t, c, mc, keys)
	var d drawn
	for n := range 400 {
		key := uint64(d.below(100))
		switch d.below(4) {
		case 0:
			x.Take(key)
			m.take(key)
		case 1:
			c.Take(key)
			mc.take(key)
		case 2:
			x.Put(key, n)
			m.put(key, n)
		case 3:
			c.Put(key, n)
			mc.put(key, n)
		}
		same(t, x, m, keys)
		same(t, c, mc, keys)
	}
}

func TestCopyHandsOnValues(t *testing.T) { // P4.5
	x := New[*int]()
	n := new(int)
	put(t, x, 1, n)
	if p, ok := x.Copy().Get(1); p != n || !ok {
		t.Error("a value is not handed on as it is")
	}
}

func TestDrawnCalls(t *testing.T) { // P4.6
	var d drawn
	for _, spread := range []int{7, 12, 40, 200} {
		x, m := New[int](), newModel()
		// Some close together, some of one home, so that walks meet.
		keys := homed(7, spread/4)
		for n := range spread {
			keys = append(keys, uint64(n))
		}
		for n := range 1500 {
			key := keys[d.below(len(keys))]
			want, had := m.values[key]
			if d.below(5) < 3 {
				if old, ok, err := x.Put(key, n); old != want || ok != had || err != api.OK {
					t.Fatalf("Put(%d) is %d, %v, %v, not %d, %v", key, old, ok, err, want, had)
				}
				m.put(key, n)
			} else {
				if value, ok := x.Take(key); value != want || ok != had {
					t.Fatalf("Take(%d) is %d, %v, not %d, %v", key, value, ok, want, had)
				}
				m.take(key)
			}
			if n%7 == 0 || spread < 40 {
				same(t, x, m, keys)
			}
		}
	}
}

func TestValuesDoNotMatter(t *testing.T) { // P4.6
	x, y, z := New[string](), New[float64](), New[struct{}]()
	var d drawn
	for n := range 2000 {
		key := d.next() % 300
		if d.below(3) > 0 {
			x.Put(key, strconv.Itoa(n))
			y.Put(key, math.NaN())
			z.Put(key, struct{}{})
		} else {
			x.Take(key)
			y.Take(key)
			z.Take(key)
		}
		if x.Slots() != y.Slots() || x.Slots() != z.Slots() {
			t.Fatalf("%d, %d, %d slots", x.Slots(), y.Slots(), z.Slots())
		}
		for _, key := range []uint64{key, key + 1, d.next()} {
			if x.Asked(key) != y.Asked(key) || x.Asked(key) != z.Asked(key) {
				t.Fatalf("Asked(%d) is %d, %d, %d", key, x.Asked(key), y.Asked(key), z.Asked(key))
			}
		}
		if !slices.Equal(x.Keys(), y.Keys()) || !slices.Equal(x.Keys(), z.Keys()) {
			t.Fatalf("Keys is %v, %v, %v", x.Keys(), y.Keys(), z.Keys())
		}
	}
}

func TestAllTaken(t *testing.T) { // P4.6
	for _, count := range []int{1, 6, 7, 100} {
		x, m := New[int](), newModel()
		for _, key := range homed(6, count) {
			put(t, x, key, 1)
		}
		slots := x.Slots()
		for _, key := range homed(6, count) {
			x.Take(key)
		}
		m.slots = make([]*uint64, slots)
		same(t, x, m, homed(6, count)) // each look asks one slot, as of a table that was never filled
		for _, key := range []uint64{3, 1, 2} {
			put(t, x, key, 5)
			m.put(key, 5)
		}
		same(t, x, m, homed(6, count))
	}
}

func TestNil(t *testing.T) { // P4.7
	for what, x := range map[string]*Table[int]{"nil": nil, "zero": {}} {
		if old, had, err := x.Put(1, 2); old != 0 || had || err != api.ErrNil {
			t.Errorf("%s: Put is %d, %v, %v", what, old, had, err)
		}
		if value, ok := x.Get(1); value != 0 || ok {
			t.Errorf("%s: Get is %d, %v", what, value, ok)
		}
		if value, ok := x.Take(1); value != 0 || ok {
			t.Errorf("%s: Take is %d, %v", what, value, ok)
		}
		if x.Len() != 0 || x.Slots() != 0 || x.Asked(1) != 0 || x.Keys() != nil || x.Copy() != nil {
			t.Errorf("%s: %d, %d, %d, %v, %v", what, x.Len(), x.Slots(), x.Asked(1), x.Keys(), x.Copy())
		}
		all := x.All()
		if all == nil {
			t.Fatalf("%s: no All", what)
		}
		for key, value := range all {
			t.Errorf("%s: All tells %d, %d", what, key, value)
		}
		x.Clear()
		if x.Slots() != 0 {
			t.Errorf("%s: Clear has made %d slots", what, x.Slots())
		}
	}
}

func TestExamples(t *testing.T) {
	x := New[string]()
	if x.Slots() != 8 {
		t.Errorf("%d slots", x.Slots())
	}
	put(t, x, 0, "a")
	put(t, x, 5, "b")
	if old, had, err := x.Put(0, "c"); old != "a" || !had || err != api.OK {
		t.Errorf("Put(0, c) is %q, %v, %v", old, had, err)
	}
	asked(t, x, []uint64{0, 5, 2, 8}, 1, 2, 2, 1)
	put(t, x, 2, "d")
	asked(t, x, []uint64{2}, 2)
	if value, ok := x.Take(0); value != "c" || !ok {
		t.Errorf("Take(0) is %q, %v", value, ok)
	}
	asked(t, x, []uint64{5, 2}, 1, 1)

	y := New[int]()
	for key := range uint64(6) {
		put(t, y, key, 0)
	}
	if y.Slots() != 8 {
		t.Errorf("6 keys have %d slots", y.Slots())
	}
	put(t, y, 6, 0)
	if y.Slots() != 16 {
		t.Errorf("7 keys have %d slots", y.Slots())
	}

	z := New[int]()
	for _, key := range []uint64{5, 2, 7, 5} {
		z.Put(key, 0)
	}
	if keys, _ := told(z, 9); !slices.Equal(keys, []uint64{5, 2, 7}) {
		t.Errorf("All tells %v", keys)
	}
	for _, c := range []struct {
		slots, home int
		err         api.Errno
	}{{8, 4, api.OK}, {16, 9, api.OK}, {4, 0, api.ErrArg}, {12, 0, api.ErrArg}} {
		if home, err := Home(1, c.slots); home != c.home || err != c.err {
			t.Errorf("Home(1, %d) is %d, %v", c.slots, home, err)
		}
	}
}
