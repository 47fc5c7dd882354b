package cells

import (
	"encoding/binary"
	"hash/fnv"
	"math"
	"slices"
	"testing"

	"parley/api"
)

const top = math.MaxUint64

// row makes a row of these words, or ends the test.
func row(t *testing.T, words ...uint64) *Row {
	t.Helper()
	r, e := Of(words...)
	if r == nil || e != api.OK {
		t.Fatalf("Of %d words: %v, %v", len(words), r, e)
	}
	return r
}

// has asks for all words of a row.
func has(t *testing.T, r *Row, words ...uint64) {
	t.Helper()
	if got := r.Words(); !slices.Equal(got, words) {
		t.Errorf("the words are %v, not %v", got, words)
	}
}

// errno asks for an error.
func errno(t *testing.T, what string, got, want api.Errno) {
	t.Helper()
	if got != want {
		t.Errorf("%s answers %v, not %v", what, got, want)
	}
}

// drawn is a row of numbers that looks drawn, and is the same each time.
type drawn uint64

func (d *drawn) next() uint64 {
	*d = *d*6364136223846793005 + 1442695040888963407
	return uint64(*d >> 33)
}

func TestNew(t *testing.T) {
	for _, n := range []int{math.MinInt, -api.MaxCells, -1, 0, api.MaxCells + 1, math.MaxInt} {
		if r, e := New(n); r != nil || e != api.ErrArg {
			t.Errorf("New(%d) is %v, %v", n, r, e)
		}
	}
	for _, n := range []int{1, 2, api.MaxCells - 1, api.MaxCells} {
		r, e := New(n)
		if r == nil || e != api.OK || r.Len() != n {
			t.Fatalf("New(%d) is %v, %v", n, r, e)
		}
		if !slices.Equal(r.Words(), make([]uint64, n)) {
			t.Errorf("New(%d): a word is not 0", n)
		}
	}
}

func TestOf(t *testing.T) {
	words := make([]uint64, api.MaxCells+1)
	for i := range words {
		words[i] = top - uint64(i)
	}
	for _, n := range []int{0, api.MaxCells + 1} {
		if r, e := Of(words[:n]...); r != nil || e != api.ErrArg {
			t.Errorf("Of %d words is %v, %v", n, r, e)
		}
	}
	if r, e := Of([]uint64(nil)...); r != nil || e != api.ErrArg {
		t.Errorf("Of no list is %v, %v", r, e)
	}
	for _, n := range []int{1, 2, api.MaxCells} {
		r := row(t, words[:n]...)
		if r.Len() != n || !slices.Equal(r.Words(), words[:n]) {
			t.Errorf("Of %d words has others", n)
		}
	}
}

func TestRowsAreApart(t *testing.T) {
	a, _ := New(2)
	b, _ := New(2)
	c, d := row(t, 1, 2), row(t, 1, 2)
	a.Store(0, 9)
	c.Store(1, 9)
	has(t, b, 0, 0)
	has(t, d, 1, 2)
	if b.Accesses() != 0 || d.Accesses() != 0 {
		t.Error("an access of one row counts for another one")
	}
}

func TestLoadStore(t *testing.T) {
	for _, n := range []int{1, 3, api.MaxCells} {
		r, _ := New(n)
		last := uint64(n - 1)
		errno(t, "Store at the last cell", r.Store(last, top), api.OK)
		if w, e := r.Load(last); w != top || e != api.OK {
			t.Errorf("Load at the last cell of %d is %d, %v", n, w, e)
		}
		sum := r.Sum()
		for _, addr := range []uint64{last + 1, last + 2, 1 << 32, 1 << 63, top} {
			if w, e := r.Load(addr); w != 0 || e != api.ErrRange {
				t.Errorf("Load(%d) of %d cells is %d, %v", addr, n, w, e)
			}
			errno(t, "Store at no cell", r.Store(addr, 5), api.ErrRange)
		}
		if r.Sum() != sum {
			t.Error("a Store that is refused changed a word")
		}
	}
}

func TestSwap(t *testing.T) {
	r := row(t, 1, 2, 3)
	if ok, e := r.Swap(2, 3, 9); !ok || e != api.OK {
		t.Errorf("Swap of the word that stands there is %v, %v", ok, e)
	}
	has(t, r, 1, 2, 9)
	if ok, e := r.Swap(2, 3, 4); ok || e != api.OK {
		t.Errorf("Swap of another word is %v, %v", ok, e)
	}
	has(t, r, 1, 2, 9)
	if ok, e := r.Swap(0, 1, 1); !ok || e != api.OK {
		t.Errorf("Swap of a word for itself is %v, %v", ok, e)
	}
	for _, addr := range []uint64{3, 1 << 32, top} {
		if ok, e := r.Swap(addr, 0, 4); ok || e != api.ErrRange {
			t.Errorf("Swap at %d is %v, %v", addr, ok, e)
		}
	}
	has(t, r, 1, 2, 9)
}

func TestAdd(t *testing.T) {
	r := row(t, 1, 2, 9)
	for _, c := range []struct{ word, ahead, behind uint64 }{
		{0, 9, 9}, {1, 9, 10}, {top, 10, 9}, {top - 8, 9, 0}, {top, 0, top}, {1, top, 0},
	} {
		if w, e := r.Add(2, c.word); w != c.ahead || e != api.OK {
			t.Errorf("Add(2, %d) is %d, %v, not %d", c.word, w, e, c.ahead)
		}
		has(t, r, 1, 2, c.behind)
	}
	for _, addr := range []uint64{3, 1 << 32, top} {
		if w, e := r.Add(addr, 1); w != 0 || e != api.ErrRange {
			t.Errorf("Add at %d is %d, %v", addr, w, e)
		}
	}
	has(t, r, 1, 2, 0)
}

func TestFill(t *testing.T) {
	r := row(t, 1, 2, 3)
	for _, from := range []uint64{0, 2, 3, 4, 1 << 63, top} {
		errno(t, "Fill without words", r.Fill(from), api.OK)
		errno(t, "Fill of an empty list", r.Fill(from, []uint64{}...), api.OK)
	}
	has(t, r, 1, 2, 3)
	for _, from := range []uint64{3, 4, 1 << 63, top - 1, top} {
		for _, words := range [][]uint64{{8}, {8, 8}, {8, 8, 8}, {8, 8, 8, 8}} {
			errno(t, "Fill at no cell", r.Fill(from, words...), api.ErrRange)
		}
	}
	errno(t, "Fill(2) of two", r.Fill(2, 8, 8), api.ErrRange)
	errno(t, "Fill(1) of three", r.Fill(1, 8, 8, 8), api.ErrRange)
	errno(t, "Fill(0) of four", r.Fill(0, 8, 8, 8, 8), api.ErrRange)
	has(t, r, 1, 2, 3)
	errno(t, "Fill(2)", r.Fill(2, 5), api.OK)
	has(t, r, 1, 2, 5)
	errno(t, "Fill(1)", r.Fill(1, 6, 7), api.OK)
	has(t, r, 1, 6, 7)
	errno(t, "Fill(0)", r.Fill(0, 10, 11, 12), api.OK)
	has(t, r, 10, 11, 12)
	errno(t, "Fill of the first one", r.Fill(0, top), api.OK)
	has(t, r, top, 11, 12)
	if r.Accesses() != 0 {
		t.Error("Fill is an access")
	}
}

func TestFillOfALongRow(t *testing.T) {
	r, _ := New(api.MaxCells)
	words := slices.Repeat([]uint64{7}, api.MaxCells+1)
	errno(t, "Fill of one too many", r.Fill(0, words...), api.ErrRange)
	errno(t, "Fill behind the first cell", r.Fill(1, words[:api.MaxCells]...), api.ErrRange)
	if !slices.Equal(r.Words(), make([]uint64, api.MaxCells)) {
		t.Error("a Fill that is refused changed a word")
	}
	errno(t, "Fill of all", r.Fill(0, words[:api.MaxCells]...), api.OK)
	if !slices.Equal(r.Words(), words[:api.MaxCells]) {
		t.Error("Fill left out a word")
	}
}

func TestSlice(t *testing.T) {
	r := row(t, 4, 5, 6)
	for _, c := range []struct {
		from, behind uint64
		words        []uint64
		err          api.Errno
	}{
		{0, 3, []uint64{4, 5, 6}, api.OK},
		{1, 3, []uint64{5, 6}, api.OK},
		{0, 1, []uint64{4}, api.OK},
		{2, 3, []uint64{6}, api.OK},
		{0, 0, nil, api.OK},
		{1, 1, nil, api.OK},
		{3, 3, nil, api.OK},
		{1, 0, nil, api.ErrArg},
		{2, 1, nil, api.ErrArg},
		{9, 8, nil, api.ErrArg},
		{top, 0, nil, api.ErrArg},
		{top, 3, nil, api.ErrArg},
		{0, 4, nil, api.ErrRange},
		{3, 4, nil, api.ErrRange},
		{4, 4, nil, api.ErrRange},
		{0, top, nil, api.ErrRange},
		{top, top, nil, api.ErrRange},
	} {
		words, e := r.Slice(c.from, c.behind)
		if e != c.err || !slices.Equal(words, c.words) {
			t.Errorf("Slice(%d, %d) is %v, %v", c.from, c.behind, words, e)
		}
		if e != api.OK && words != nil {
			t.Errorf("Slice(%d, %d) answers a list beside an error", c.from, c.behind)
		}
	}
	if r.Accesses() != 0 {
		t.Error("Slice is an access")
	}
}

func TestLenHas(t *testing.T) {
	for _, n := range []int{1, 3, api.MaxCells} {
		r, _ := New(n)
		behind := uint64(n)
		if r.Len() != n || !r.Has(0) || !r.Has(behind-1) {
			t.Errorf("a row of %d cells has less", n)
		}
		for _, addr := range []uint64{behind, behind + 1, 1 << 32, 1 << 63, top} {
			if r.Has(addr) {
				t.Errorf("a row of %d cells has %d", n, addr)
			}
		}
	}
}

func TestAll(t *testing.T) {
	r := row(t, 4, 5, 6)
	all := r.All()
	for range 2 {
		var got []uint64
		for addr, word := range all {
			got = append(got, addr, word)
		}
		if !slices.Equal(got, []uint64{0, 4, 1, 5, 2, 6}) {
			t.Errorf("All tells %v", got)
		}
	}
	for n := range 3 {
		told := 0
		for addr := range all {
			if told++; addr == uint64(n) {
				break
			}
		}
		if told != n+1 {
			t.Errorf("All, left behind %d cells, tells %d", n+1, told)
		}
	}
}

func TestAllWhileTheRowChanges(t *testing.T) {
	r := row(t, 4, 5, 6)
	all := r.All()
	r.Store(1, 50)
	var outer, inner []uint64
	for addr, word := range all {
		outer = append(outer, word)
		r.Fill(0, 7, 8, 9)
		r.Add(2, addr)
		if addr == 1 {
			for _, word := range all {
				inner = append(inner, word)
				r.Store(2, 0)
			}
		}
	}
	if !slices.Equal(outer, []uint64{4, 50, 6}) {
		t.Errorf("All tells %v, not the row as it was when the loop began", outer)
	}
	if !slices.Equal(inner, []uint64{7, 8, 10}) {
		t.Errorf("All tells %v within, not the row as it was when that loop began", inner)
	}
	has(t, r, 7, 8, 11)
}

func TestSum(t *testing.T) {
	if sum := row(t, 0).Sum(); sum != 12161962213042174405 {
		t.Errorf("the sum of one cell 0 is %d", sum)
	}
	for _, words := range [][]uint64{{1}, {1 << 56}, {top}, {0x0102030405060708}, {1, 2}, {2, 1}, {0, 0, 0}} {
		// The library's sum of 64 bits goes by the same rule.
		sum := fnv.New64a()
		for _, word := range words {
			sum.Write(binary.LittleEndian.AppendUint64(nil, word))
		}
		if got := row(t, words...).Sum(); got != sum.Sum64() {
			t.Errorf("the sum of %v is %d, not %d", words, got, sum.Sum64())
		}
	}
}

func TestAccesses(t *testing.T) {
	r := row(t, 1, 2, 3)
	want := uint64(0)
	for _, addr := range []uint64{0, 2, 3, top} {
		for _, access := range []func(){
			func() { r.Load(addr) },
			func() { r.Store(addr, 1) },
			func() { r.Swap(addr, 1, 2) },
			func() { r.Swap(addr, 1, 2) },
			func() { r.Add(addr, 1) },
		} {
			access()
			if want++; r.Accesses() != want {
				t.Fatalf("Accesses is %d, not %d", r.Accesses(), want)
			}
		}
	}
}

func TestNoAccesses(t *testing.T) {
	r, other := row(t, 1, 2, 3), row(t, 1, 5, 3)
	r.Load(0)
	for i, call := range []func(){
		func() { r.Len() },
		func() { r.Has(0); r.Has(3) },
		func() { r.Fill(0, 1, 2); r.Fill(3, 1); r.Fill(9) },
		func() { r.Slice(0, 3); r.Slice(2, 1); r.Slice(0, 4) },
		func() { r.Words() },
		func() {
			for range r.All() {
			}
		},
		func() { r.Sum() },
		func() { r.Accesses() },
		func() { r.Copy() },
		func() { Same(r, other); Same(other, r); Same(r, r) },
		func() { Differ(r, other); Differ(other, r); Differ(r, r) },
	} {
		call()
		if r.Accesses() != 1 || other.Accesses() != 0 {
			t.Errorf("call %d is an access", i)
		}
	}
}

func TestAccessesGoRound(t *testing.T) {
	r := row(t, 1)
	r.accesses = top
	if r.Load(0); r.Accesses() != 0 {
		t.Errorf("Accesses is %d behind 2^64 - 1", r.Accesses())
	}
}

func TestCopy(t *testing.T) {
	r := row(t, 1, 2, 3)
	r.Store(0, 4)
	c := r.Copy()
	if c == nil || c.Accesses() != 0 || r.Accesses() != 1 {
		t.Fatal("a copy has accesses, or is one")
	}
	has(t, c, 4, 2, 3)
	c.Add(1, 10)
	r.Store(2, 30)
	c.Load(9)
	has(t, c, 4, 12, 3)
	has(t, r, 4, 2, 30)
	if c.Accesses() != 2 || r.Accesses() != 2 {
		t.Errorf("the accesses are %d and %d", c.Accesses(), r.Accesses())
	}
}

func TestSame(t *testing.T) {
	r := row(t, 1, 2, 3)
	used := row(t, 1, 2, 3)
	used.Load(0)
	if !Same(r, r) || !Same(r, used) || !Same(used, r) || !Same(r, r.Copy()) {
		t.Error("like rows are not Same")
	}
	for _, other := range []*Row{nil, {}, row(t, 1), row(t, 1, 2), row(t, 1, 2, 3, 0), row(t, 0, 2, 3), row(t, 1, 0, 3), row(t, 1, 2, 0)} {
		if Same(r, other) || Same(other, r) {
			t.Errorf("%v is Same as 1 2 3", other.Words())
		}
	}
	if Same(nil, nil) || Same(nil, &Row{}) || Same(&Row{}, &Row{}) {
		t.Error("rows that are not there are Same")
	}
}

func TestDiffer(t *testing.T) {
	for _, c := range []struct {
		a, b []uint64
		want []api.Cell
	}{
		{[]uint64{1, 2, 3}, []uint64{1, 0, 4}, []api.Cell{{Addr: 1, Word: 0}, {Addr: 2, Word: 4}}},
		{[]uint64{1, 2, 3}, []uint64{1, 2, 3}, nil},
		{[]uint64{1, 2, 3}, []uint64{9, 2, 3}, []api.Cell{{Addr: 0, Word: 9}}},
		{[]uint64{0}, []uint64{top}, []api.Cell{{Addr: 0, Word: top}}},
		{[]uint64{1, 2}, []uint64{2, 1}, []api.Cell{{Addr: 0, Word: 2}, {Addr: 1, Word: 1}}},
	} {
		a, b := row(t, c.a...), row(t, c.b...)
		got, e := Differ(a, b)
		if e != api.OK || !slices.Equal(got, c.want) {
			t.Errorf("Differ of %v and %v is %v, %v", c.a, c.b, got, e)
		}
		has(t, a, c.a...)
		has(t, b, c.b...)
	}
}

func TestDifferRefused(t *testing.T) {
	r := row(t, 1, 2, 3)
	for _, c := range []struct {
		a, b *Row
		err  api.Errno
	}{
		{nil, r, api.ErrNil},
		{r, nil, api.ErrNil},
		{nil, nil, api.ErrNil},
		{&Row{}, r, api.ErrNil},
		{r, &Row{}, api.ErrNil},
		{&Row{}, &Row{}, api.ErrNil},
		{r, row(t, 1, 2), api.ErrArg},
		{row(t, 1), r, api.ErrArg},
		{r, row(t, 1, 2, 3, 4), api.ErrArg},
	} {
		if got, e := Differ(c.a, c.b); got != nil || e != c.err {
			t.Errorf("Differ is %v, %v, not %v", got, e, c.err)
		}
	}
}

// TestAgainstAModel holds each call against a plain list of words: what is stored last is loaded, whatever happens to the other cells; what fails or is refused changes nothing.
func TestAgainstAModel(t *testing.T) {
	const cells = 5
	r, _ := New(cells)
	model := make([]uint64, cells)
	d := drawn(1)
	for i := range 20000 {
		addr, word, old := d.next()%(cells+2), d.next()%4-1, d.next()%4-1
		is := addr < cells
		want := api.OK
		if !is {
			want = api.ErrRange
		}
		var e api.Errno
		switch d.next() % 5 {
		case 0:
			e = r.Store(addr, word)
			if is {
				model[addr] = word
			}
		case 1:
			var ok bool
			ok, e = r.Swap(addr, old, word)
			if ok != (is && model[addr] == old) {
				t.Fatalf("step %d: Swap is %v", i, ok)
			}
			if ok {
				model[addr] = word
			}
		case 2:
			var ahead uint64
			ahead, e = r.Add(addr, word)
			if is && ahead != model[addr] {
				t.Fatalf("step %d: Add is %d, not %d", i, ahead, model[addr])
			}
			if is {
				model[addr] += word
			}
		case 3:
			e = r.Fill(addr, word, old)
			want = api.OK
			if addr+2 > cells {
				want = api.ErrRange
			} else {
				model[addr], model[addr+1] = word, old
			}
		case 4:
			var got uint64
			got, e = r.Load(addr)
			if is && got != model[addr] {
				t.Fatalf("step %d: Load is %d, not %d", i, got, model[addr])
			}
		}
		if e != want || !slices.Equal(r.Words(), model) {
			t.Fatalf("step %d: %v, not %v; %v, not %v", i, e, want, r.Words(), model)
		}
	}
}

func TestDifferMendsARow(t *testing.T) {
	d := drawn(2)
	for range 500 {
		n := int(1 + d.next()%9)
		a, _ := New(n)
		b, _ := New(n)
		for addr := range uint64(n) {
			a.Store(addr, d.next()%3)
			b.Store(addr, d.next()%3)
		}
		cells, e := Differ(a, b)
		if e != api.OK || Same(a, b) != (len(cells) == 0) {
			t.Fatalf("Differ is %v, %v, Same %v", cells, e, Same(a, b))
		}
		if !slices.IsSortedFunc(cells, func(x, y api.Cell) int { return int(x.Addr) - int(y.Addr) }) {
			t.Errorf("%v do not rise", cells)
		}
		for _, c := range cells {
			if w, _ := a.Load(c.Addr); w == c.Word {
				t.Errorf("%v does not differ", c)
			}
			a.Store(c.Addr, c.Word)
		}
		if !Same(a, b) || !Same(b, a) || a.Sum() != b.Sum() {
			t.Errorf("behind Differ %v and %v", a.Words(), b.Words())
		}
	}
}

func TestAddsInAnyOrder(t *testing.T) {
	d := drawn(3)
	adds := make([]api.Cell, 200)
	for i := range adds {
		adds[i] = api.Cell{Addr: d.next() % 4, Word: d.next() << 31}
	}
	there, back := row(t, 1, 2, 3, 4), row(t, 1, 2, 3, 4)
	for _, c := range adds {
		there.Add(c.Addr, c.Word)
	}
	for _, c := range slices.Backward(adds) {
		back.Add(c.Addr, c.Word)
	}
	if !Same(there, back) || Same(there, row(t, 1, 2, 3, 4)) {
		t.Errorf("Adds come to %v and %v", there.Words(), back.Words())
	}
}

// TestNotThere asks every method of a nil row and of a zero one, which no call of the package made; twice, for the first round must leave no trace.
func TestNotThere(t *testing.T) {
	for name, r := range map[string]*Row{"nil": nil, "zero": {}} {
		for range 2 {
			notThere(t, name, r)
		}
	}
}

func notThere(t *testing.T, name string, r *Row) {
	if w, e := r.Load(0); w != 0 || e != api.ErrNil {
		t.Errorf("%s: Load is %d, %v", name, w, e)
	}
	if _, e := r.Load(top); e != api.ErrNil {
		t.Errorf("%s: Load of no cell is %v", name, e)
	}
	errno(t, name+": Store", r.Store(0, 1), api.ErrNil)
	if ok, e := r.Swap(0, 0, 1); ok || e != api.ErrNil {
		t.Errorf("%s: Swap is %v, %v", name, ok, e)
	}
	if w, e := r.Add(0, 1); w != 0 || e != api.ErrNil {
		t.Errorf("%s: Add is %d, %v", name, w, e)
	}
	errno(t, name+": Fill", r.Fill(0, 1), api.ErrNil)
	errno(t, name+": Fill without words", r.Fill(0), api.ErrNil)
	for _, c := range [][2]uint64{{0, 0}, {0, 1}, {1, 0}} {
		if l, e := r.Slice(c[0], c[1]); l != nil || e != api.ErrNil {
			t.Errorf("%s: Slice is %v, %v", name, l, e)
		}
	}
	if r.Len() != 0 || r.Has(0) || r.Has(top) || len(r.Words()) != 0 || r.Sum() != 0 || r.Accesses() != 0 {
		t.Errorf("%s: %d cells, %v, the sum %d, %d accesses", name, r.Len(), r.Words(), r.Sum(), r.Accesses())
	}
	if r.All() == nil {
		t.Fatalf("%s: All is not there", name)
	}
	for addr := range r.All() {
		t.Errorf("%s: All tells %d", name, addr)
	}
	if r.Copy() != nil {
		t.Errorf("%s: a copy is there", name)
	}
}

func TestWhatIsHandedInStays(t *testing.T) {
	memory := []uint64{1, 2, 3, 90, 91, 92}
	list := memory[:3]
	of := row(t, list...)
	filled := row(t, 0, 0, 0, 0, 0, 0)
	filled.Fill(0, list...)
	for addr := range uint64(6) {
		of.Store(addr, 70)
		filled.Store(addr, 70)
	}
	of.Fill(0, 80, 80)
	filled.Fill(2, 80, 80, 80, 80)
	if !slices.Equal(memory, []uint64{1, 2, 3, 90, 91, 92}) {
		t.Errorf("what was handed in is %v", memory)
	}
	for i := range memory {
		memory[i] = 60
	}
	has(t, of, 80, 80, 70)
	has(t, filled, 70, 70, 80, 80, 80, 80)
}

// spoil writes over a list and the spare room behind it.
func spoil[T any](list []T, with T) {
	list = list[:cap(list)]
	for i := range list {
		list[i] = with
	}
}

func TestAnswersAreNewMemory(t *testing.T) {
	r, other := row(t, 1, 2, 3, 4, 5), row(t, 1, 0, 0, 4, 0)
	words, again := r.Words(), r.Words()
	slice, more := must(r.Slice(1, 3)), must(r.Slice(1, 4))
	empty := must(r.Slice(2, 2))
	cells, same := must(Differ(r, other)), must(Differ(r, other))
	copied := r.Copy()
	spoil(words, 60)
	spoil(slice, 60)
	spoil(empty, 60)
	spoil(cells, api.Cell{Addr: 60, Word: 60})
	has(t, r, 1, 2, 3, 4, 5)
	has(t, other, 1, 0, 0, 4, 0)
	has(t, copied, 1, 2, 3, 4, 5)
	if !slices.Equal(again, []uint64{1, 2, 3, 4, 5}) || !slices.Equal(more, []uint64{2, 3, 4}) {
		t.Errorf("answers share memory: %v, %v", again, more)
	}
	if !slices.Equal(same, []api.Cell{{Addr: 1}, {Addr: 2}, {Addr: 4}}) {
		t.Errorf("answers share memory: %v", same)
	}
	r.Fill(0, 9, 9, 9, 9, 9)
	if !slices.Equal(again, []uint64{1, 2, 3, 4, 5}) || !slices.Equal(more, []uint64{2, 3, 4}) {
		t.Errorf("the row keeps its answers: %v, %v", again, more)
	}
}

// must takes a list that was answered with OK.
func must[T any](list []T, e api.Errno) []T {
	if e != api.OK {
		panic(e)
	}
	return list
}

// TestExamples goes through the chapter's examples, row by row.
func TestExamples(t *testing.T) {
	_, zero := New(0)
	_, many := New(65537)
	_, none := Of()
	if got := []api.Errno{zero, many, none}; !slices.Equal(got, []api.Errno{api.ErrArg, api.ErrArg, api.ErrArg}) {
		t.Errorf("row 1: %v", got)
	}

	r, _ := New(3)
	errno(t, "row 2: Store(2, 7)", r.Store(2, 7), api.OK)
	if w, e := r.Load(2); w != 7 || e != api.OK {
		t.Errorf("row 2: Load(2) is %d, %v", w, e)
	}
	_, e := r.Load(3)
	errno(t, "row 2: Load(3)", e, api.ErrRange)
	errno(t, "row 2: Store(2^64 - 1, 1)", r.Store(top, 1), api.ErrRange)

	first, _ := r.Swap(2, 7, 9)
	second, _ := r.Swap(2, 7, 1)
	ahead, _ := r.Add(2, top)
	behind, _ := r.Load(2)
	if !first || second || ahead != 9 || behind != 8 {
		t.Errorf("row 3: %v, %v, %d, %d", first, second, ahead, behind)
	}

	if r.Accesses() != 8 || !slices.Equal(r.Words(), []uint64{0, 0, 8}) || row(t, 0).Sum() != 12161962213042174405 {
		t.Errorf("row 4: %d, %v, %d", r.Accesses(), r.Words(), row(t, 0).Sum())
	}

	errno(t, "row 5: Fill(1, 5, 6)", r.Fill(1, 5, 6), api.OK)
	errno(t, "row 5: Fill(2, 1, 1)", r.Fill(2, 1, 1), api.ErrRange)
	errno(t, "row 5: Fill(9)", r.Fill(9), api.OK)
	if l, e := r.Slice(1, 3); e != api.OK || !slices.Equal(l, []uint64{5, 6}) {
		t.Errorf("row 5: Slice(1, 3) is %v, %v", l, e)
	}
	_, e = r.Slice(2, 1)
	errno(t, "row 5: Slice(2, 1)", e, api.ErrArg)
	_, e = r.Slice(0, 4)
	errno(t, "row 5: Slice(0, 4)", e, api.ErrRange)

	if l, e := Differ(row(t, 1, 2, 3), row(t, 1, 0, 4)); e != api.OK || !slices.Equal(l, []api.Cell{{Addr: 1, Word: 0}, {Addr: 2, Word: 4}}) {
		t.Errorf("row 6: %v, %v", l, e)
	}

	_, e = Differ(row(t, 1), row(t, 1, 2))
	errno(t, "row 7: Differ", e, api.ErrArg)
	if !Same(row(t, 1), row(t, 1)) || Same(nil, nil) {
		t.Error("row 7: Same")
	}
}
