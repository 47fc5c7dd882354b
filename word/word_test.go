package word

import (
	"cmp"
	"math"
	"math/big"
	"slices"
	"testing"
)

const (
	top   = math.MaxUint64
	least = math.SmallestNonzeroFloat64
	most  = math.MaxFloat64
)

var (
	minus = math.Copysign(0, -1)
	inf   = math.Inf(1)
	nan   = math.NaN()
)

// nans are NaN of many bits: of either sign, quiet and not, the least and the greatest.
var nans = []uint64{
	0x7ff8000000000001, 0x7ff8000000000000, 0x7ff0000000000001, 0x7fffffffffffffff, 0x7ff4000000000000,
	0xfff8000000000001, 0xfff8000000000000, 0xfff0000000000001, 0xffffffffffffffff, 0xfff4000000000000,
}

// risen is real numbers in their order, with their words; the words were worked out by hand from the chapter's section 'Words'.
var risen = []struct {
	x float64
	w uint64
}{
	{-inf, 0x000fffffffffffff},
	{-most, 0x0010000000000000},
	{-9223372036854775808, 0x3c1fffffffffffff},
	{-2.5, 0x3ffbffffffffffff},
	{-1, 0x400fffffffffffff},
	{-2.2250738585072014e-308, 0x7fefffffffffffff},
	{-least, 0x7ffffffffffffffe},
	{minus, 0x7fffffffffffffff},
	{0, 0x8000000000000000},
	{least, 0x8000000000000001},
	{2.2250738585072014e-308, 0x8010000000000000},
	{1, 0xbff0000000000000},
	{2.5, 0xc004000000000000},
	{9223372036854775808, 0xc3e0000000000000},
	{most, 0xffefffffffffffff},
	{inf, 0xfff0000000000000},
	{nan, 0xffffffffffffffff},
}

// alike tells whether two real numbers are the same to the last bit; any two NaN are.
func alike(a, b float64) bool {
	return a != a && b != b || math.Float64bits(a) == math.Float64bits(b)
}

// drawn is a row of numbers that looks drawn, and is the same each time.
type drawn uint64

func (d *drawn) next() uint64 {
	*d = *d*6364136223846793005 + 1442695040888963407
	return uint64(*d >> 33)
}

// word is near one of the places where something turns, or anywhere.
func (d *drawn) word() uint64 {
	near := []uint64{0, 1 << 31, 1 << 32, 1 << 52, 1 << 53, 1 << 62, 1 << 63, 0x000fffffffffffff, 0xfff0000000000000, 0x7ff0000000000000}
	switch d.next() % 3 {
	case 0:
		return near[d.next()%uint64(len(near))] + d.next()%5 - 2
	default:
		return d.next()<<40 ^ d.next()<<20 ^ d.next()
	}
}

// words are words that look drawn.
func words(n int) []uint64 {
	d, list := drawn(3), make([]uint64, n)
	for i := range list {
		list[i] = d.word()
	}
	return list
}

func TestOfIntAndInt(t *testing.T) {
	for _, c := range []struct {
		x int64
		w uint64
	}{
		{math.MinInt64, 0}, {math.MinInt64 + 1, 1}, {-2, 1<<63 - 2}, {-1, 1<<63 - 1}, {0, 1 << 63}, {1, 1<<63 + 1}, {math.MaxInt64 - 1, top - 1}, {math.MaxInt64, top},
	} {
		if w := OfInt(c.x); w != c.w {
			t.Errorf("OfInt(%d) is %#x, not %#x", c.x, w, c.w)
		}
		if x := Int(c.w); x != c.x {
			t.Errorf("Int(%#x) is %d, not %d", c.w, x, c.x)
		}
	}
	list := words(2000)
	for i, a := range list[1:] {
		b := list[i]
		if cmp.Compare(OfInt(int64(a)), OfInt(int64(b))) != cmp.Compare(int64(a), int64(b)) {
			t.Errorf("the words of %d and %d are not in the order of these", int64(a), int64(b))
		}
	}
}

func TestOfReal(t *testing.T) {
	for _, r := range risen {
		if w := OfReal(r.x); w != r.w {
			t.Errorf("OfReal(%v) is %#x, not %#x", r.x, w, r.w)
		}
	}
	for _, bits := range nans {
		if w := OfReal(math.Float64frombits(bits)); w != top {
			t.Errorf("OfReal of the NaN %#x is %#x", bits, w)
		}
	}
}

func TestReal(t *testing.T) {
	for _, r := range risen {
		if x, ok := Real(r.w); !alike(x, r.x) || !ok {
			t.Errorf("Real(%#x) is %v, %v, not %v", r.w, x, ok, r.x)
		}
	}
	for _, w := range []uint64{0, 1, 0x000ffffffffffffe, 0xfff0000000000001, 0xfff8000000000000, 0xfff8000000000001, top - 2, top - 1} {
		if x, ok := Real(w); math.Float64bits(x) != 0 || ok {
			t.Errorf("Real(%#x) is %v, %v", w, x, ok)
		}
	}
}

func TestOfPairAndPair(t *testing.T) {
	numbers := []struct {
		x    int32
		half uint64
	}{
		{math.MinInt32, 0}, {math.MinInt32 + 1, 1}, {-1, 0x7fffffff}, {0, 0x80000000}, {1, 0x80000001}, {math.MaxInt32, 0xffffffff},
	}
	var last uint64
	for i, a := range numbers {
		for j, b := range numbers {
			want := a.half*(1<<32) + b.half
			w := OfPair(a.x, b.x)
			if w != want {
				t.Errorf("OfPair(%d, %d) is %#x, not %#x", a.x, b.x, w, want)
			}
			if i+j > 0 && w <= last {
				t.Errorf("the word of %d, %d does not rise", a.x, b.x)
			}
			if x, y := Pair(want); x != a.x || y != b.x {
				t.Errorf("Pair(%#x) is %d, %d, not %d, %d", want, x, y, a.x, b.x)
			}
			last = w
		}
	}
}

func TestCompareAndSame(t *testing.T) {
	for i, a := range risen {
		for j, b := range risen {
			if got := Compare(a.x, b.x); got != cmp.Compare(i, j) {
				t.Errorf("Compare(%v, %v) is %d", a.x, b.x, got)
			}
			if got := Same(a.x, b.x); got != (i == j) {
				t.Errorf("Same(%v, %v) is %v", a.x, b.x, got)
			}
		}
	}
	for _, a := range nans {
		for _, b := range nans {
			x, y := math.Float64frombits(a), math.Float64frombits(b)
			if Compare(x, y) != 0 || !Same(x, y) {
				t.Errorf("the NaN %#x and %#x are not the same", a, b)
			}
		}
		x := math.Float64frombits(a)
		for _, y := range []float64{-inf, -1, minus, 0, 1, inf} {
			if Compare(x, y) != 1 || Compare(y, x) != -1 || Same(x, y) || Same(y, x) {
				t.Errorf("the NaN %#x is not behind %v", a, y)
			}
		}
	}
}

func TestCompareIsTheLanguagesOwn(t *testing.T) {
	list := words(4000)
	for i, w := range list[1:] {
		a, b := math.Float64frombits(w), math.Float64frombits(list[i])
		if a != a || b != b || a == b {
			continue
		}
		if got := Compare(a, b); got != cmp.Compare(a, b) {
			t.Errorf("Compare(%v, %v) is %d", a, b, got)
		}
	}
}

func TestWhole(t *testing.T) {
	for _, c := range []struct {
		x float64
		n int64
	}{
		{minus, 0}, {0, 0}, {1, 1}, {-1, -1}, {3, 3}, {-7, -7},
		{1 << 53, 1 << 53}, {1<<53 - 1, 1<<53 - 1}, {-(1 << 53) + 1, -(1 << 53) + 1},
		{1<<63 - 1024, 1<<63 - 1024}, {-1 << 63, math.MinInt64}, {-1<<63 + 1024, math.MinInt64 + 1024},
	} {
		if n, ok := Whole(c.x); n != c.n || !ok {
			t.Errorf("Whole(%v) is %d, %v", c.x, n, ok)
		}
	}
	for _, x := range []float64{
		2.5, -2.5, 0.1, -0.1, least, -least, 1 - 0x1p-53, 1 + 0x1p-52, 1<<52 - 0.5, -(1<<52 - 0.5),
		1 << 63, 1<<63 + 2048, -1<<63 - 2048, 1 << 64, -1 << 64, 1e300, -1e300, most, -most, inf, -inf, nan,
	} {
		if n, ok := Whole(x); n != 0 || ok {
			t.Errorf("Whole(%v) is %d, %v", x, n, ok)
		}
	}
	for _, bits := range nans {
		if n, ok := Whole(math.Float64frombits(bits)); n != 0 || ok {
			t.Errorf("Whole of the NaN %#x is %d, %v", bits, n, ok)
		}
	}
}

func TestNearest(t *testing.T) {
	for _, c := range []struct {
		x  int64
		y  float64
		ok bool
	}{
		{0, 0, true}, {1, 1, true}, {-1, -1, true},
		{1<<53 - 1, 1<<53 - 1, true}, {1 << 53, 1 << 53, true}, {-(1<<53 - 1), -(1<<53 - 1), true}, {-1 << 53, -1 << 53, true},
		{1<<53 + 1, 1 << 53, false}, {1<<53 + 2, 1<<53 + 2, true}, {1<<53 + 3, 1<<53 + 4, false},
		{-(1<<53 + 1), -(1 << 53), false}, {-(1<<53 + 3), -(1<<53 + 4), false},
		{1<<54 + 1, 1 << 54, false}, {1<<54 + 2, 1 << 54, false}, {1<<54 + 3, 1<<54 + 4, false}, {1<<54 + 6, 1<<54 + 8, false},
		{math.MaxInt64, 1 << 63, false}, {math.MaxInt64 - 511, 1 << 63, false}, {math.MaxInt64 - 512, 1<<63 - 1024, false}, {math.MaxInt64 - 1023, 1<<63 - 1024, true},
		{math.MinInt64, -1 << 63, true}, {math.MinInt64 + 1, -1 << 63, false}, {math.MinInt64 + 512, -1 << 63, false}, {math.MinInt64 + 513, -1<<63 + 1024, false}, {math.MinInt64 + 1024, -1<<63 + 1024, true},
	} {
		if y, ok := Nearest(c.x); !alike(y, c.y) || ok != c.ok {
			t.Errorf("Nearest(%d) is %v, %v, not %v, %v", c.x, y, ok, c.y, c.ok)
		}
	}
	for _, w := range words(4000) {
		x := int64(w) >> (w % 16)
		want, accuracy := new(big.Float).SetInt64(x).Float64()
		if y, ok := Nearest(x); !alike(y, want) || ok != (accuracy == big.Exact) {
			t.Errorf("Nearest(%d) is %v, %v, not %v, %v", x, y, ok, want, accuracy)
		}
	}
}

func TestUp(t *testing.T) {
	for _, c := range []struct{ x, up float64 }{
		{-inf, -most}, {-most, -1.7976931348623155e308}, {-1, -(1 - 0x1p-53)}, {-2 * least, -least}, {-least, minus}, {minus, 0}, {0, least}, {least, 2 * least},
		{1 - 0x1p-53, 1}, {1, 1 + 0x1p-52}, {most, inf}, {inf, nan}, {nan, nan},
	} {
		if up := Up(c.x); !alike(up, c.up) {
			t.Errorf("Up(%v) is %v, not %v", c.x, up, c.up)
		}
	}
	for _, bits := range nans {
		if up := Up(math.Float64frombits(bits)); up == up {
			t.Errorf("Up of the NaN %#x is %v", bits, up)
		}
	}
}

func TestDown(t *testing.T) {
	for _, c := range []struct{ x, down float64 }{
		{nan, inf}, {inf, most}, {most, 1.7976931348623155e308}, {1 + 0x1p-52, 1}, {1, 1 - 0x1p-53}, {2 * least, least}, {least, 0}, {0, minus}, {minus, -least}, {-least, -2 * least},
		{-(1 - 0x1p-53), -1}, {-1, -(1 + 0x1p-52)}, {-most, -inf}, {-inf, -inf},
	} {
		if down := Down(c.x); !alike(down, c.down) {
			t.Errorf("Down(%v) is %v, not %v", c.x, down, c.down)
		}
	}
	for _, bits := range nans {
		if down := Down(math.Float64frombits(bits)); down != inf {
			t.Errorf("Down of the NaN %#x is %v", bits, down)
		}
	}
}

// The library's own next number, where noughts do not come in.
func TestUpAndDownAreTheNext(t *testing.T) {
	for _, w := range words(4000) {
		x := math.Float64frombits(w)
		if x != x || math.Abs(x) <= least || math.IsInf(x, 0) {
			continue
		}
		if up := Up(x); up != math.Nextafter(x, inf) {
			t.Errorf("Up(%v) is %v", x, up)
		}
		if down := Down(x); down != math.Nextafter(x, -inf) {
			t.Errorf("Down(%v) is %v", x, down)
		}
	}
}

func TestMiddle(t *testing.T) {
	for _, c := range []struct{ a, b, middle uint64 }{
		{0, 0, 0}, {7, 7, 7}, {top, top, top}, {0, 1, 0}, {0, 2, 1}, {3, 8, 5}, {3, 9, 6}, {4, 9, 6}, {top - 1, top, top - 1}, {top - 2, top, top - 1},
		{0, top, 1<<63 - 1}, {1, top, 1 << 63}, {0, top - 1, 1<<63 - 1}, {1 << 63, top, 1<<63 + 1<<62 - 1}, {1<<63 - 1, 1 << 63, 1<<63 - 1},
	} {
		if m := Middle(c.a, c.b); m != c.middle {
			t.Errorf("Middle(%d, %d) is %d, not %d", c.a, c.b, m, c.middle)
		}
		if m := Middle(c.b, c.a); m != c.middle {
			t.Errorf("Middle(%d, %d) is %d, not %d", c.b, c.a, m, c.middle)
		}
	}
	list := words(2000)
	for i, a := range list[1:] {
		b := list[i]
		sum := new(big.Int).SetUint64(a)
		sum.Add(sum, new(big.Int).SetUint64(b))
		if m := Middle(a, b); m != sum.Rsh(sum, 1).Uint64() {
			t.Errorf("Middle(%d, %d) is %d", a, b, m)
		}
	}
}

// leastOf asks for the least of a list whose numbers rise, in all ways of turning it round.
func leastOf[N int8 | int16 | int32 | int64 | float32 | float64](t *testing.T, list ...N) {
	t.Helper()
	want := list[0]
	for n := 1; n <= len(list); n++ {
		part := slices.Clone(list[:n])
		for range part {
			if x, ok := Least(part...); x != want || !ok {
				t.Errorf("Least(%v) is %v, %v", part, x, ok)
			}
			part = append(part[1:], part[0])
		}
		slices.Reverse(part)
		if x, ok := Least(part...); x != want || !ok {
			t.Errorf("Least(%v) is %v, %v", part, x, ok)
		}
	}
}

// leastOfNone asks for the least of none.
func leastOfNone[N int8 | int16 | int32 | int64 | float32 | float64](t *testing.T) {
	t.Helper()
	for _, list := range [][]N{nil, {}, make([]N, 0, 4)} {
		if x, ok := Least(list...); x != 0 || math.Signbit(float64(x)) || ok {
			t.Errorf("Least of none of %T is %v, %v", x, x, ok)
		}
	}
}

func TestLeastOfNone(t *testing.T) {
	leastOfNone[int8](t)
	leastOfNone[int16](t)
	leastOfNone[int32](t)
	leastOfNone[int64](t)
	leastOfNone[float32](t)
	leastOfNone[float64](t)
}

func TestLeastOfSeveral(t *testing.T) {
	leastOf[int8](t, -128, -128, -127, -1, 0, 0, 1, 127)
	leastOf[int16](t, -32768, -32767, -129, 0, 255, 32767)
	leastOf[int32](t, math.MinInt32, math.MinInt32+1, -32769, 0, 65536, math.MaxInt32)
	// These are one and the same number as soon as they are real ones.
	leastOf[int64](t, math.MinInt64, math.MinInt64+1, math.MinInt64+2, -1<<53-1, -1<<53, 0, 1<<53, 1<<53+1, math.MaxInt64-1, math.MaxInt64)
	leastOf[int64](t, 1<<53, 1<<53+1, math.MaxInt64-1, math.MaxInt64)
	leastOf[float32](t, float32(-inf), -math.MaxFloat32, -1, -math.SmallestNonzeroFloat32, math.SmallestNonzeroFloat32, 0.5, math.MaxFloat32, float32(inf))
	leastOf[float64](t, -inf, -most, -1, -least, least, 0.5, 1, most, inf)
	leastOf[float64](t, inf, inf)
	leastOf[int8](t, 5)
	leastOf[int32](t, 0, 0)
}

// float32s turns a list into float32; NaN stays NaN, and a nought keeps its sign.
func float32s(list []float64) []float32 {
	var turned []float32
	for _, x := range list {
		turned = append(turned, float32(x))
	}
	return turned
}

func TestLeastOfNaNAndNoughts(t *testing.T) {
	other := math.Float64frombits(0xfff8000000000123)
	for _, c := range []struct {
		list []float64
		want float64
	}{
		{[]float64{nan, 1}, 1}, {[]float64{1, nan}, 1}, {[]float64{nan, inf}, inf}, {[]float64{inf, nan}, inf}, {[]float64{nan, -inf, nan}, -inf}, {[]float64{3, nan, 2, other, 4}, 2},
		{[]float64{nan}, nan}, {[]float64{nan, other}, nan}, {[]float64{other, nan, other}, nan},
		{[]float64{0, minus}, minus}, {[]float64{minus, 0}, minus}, {[]float64{minus, minus}, minus}, {[]float64{0, 0}, 0}, {[]float64{minus}, minus}, {[]float64{0}, 0},
		{[]float64{nan, 0, minus}, minus}, {[]float64{minus, nan, 0}, minus}, {[]float64{0, nan}, 0}, {[]float64{nan, minus}, minus}, {[]float64{0, minus, -least}, -least}, {[]float64{least, 0}, 0},
	} {
		if x, ok := Least(c.list...); !alike(x, c.want) || !ok {
			t.Errorf("Least(%v) is %v, %v, not %v", c.list, x, ok, c.want)
		}
		if c.want == c.want && c.want != -least {
			if x, ok := Least(float32s(c.list)...); !alike(float64(x), c.want) || !ok {
				t.Errorf("Least(%v) of float32 is %v, %v, not %v", c.list, x, ok, c.want)
			}
		}
	}
	if x, ok := Least(float32(nan), float32(other)); x == x || !ok {
		t.Errorf("Least of NaN of float32 is %v, %v", x, ok)
	}
}

// A NaN that is only moved keeps its bits.
func TestLeastKeepsBits(t *testing.T) {
	for _, bits := range nans {
		x, ok := Least(math.Float64frombits(bits))
		if math.Float64bits(x) != bits || !ok {
			t.Errorf("Least of the NaN %#x is %#x, %v", bits, math.Float64bits(x), ok)
		}
	}
	for _, bits := range []uint32{0x7fc00000, 0x7f800001, 0xffc00001, 0xff800001, 0xffffffff} {
		x, ok := Least(math.Float32frombits(bits))
		if math.Float32bits(x) != bits || !ok {
			t.Errorf("Least of the NaN %#x is %#x, %v", bits, math.Float32bits(x), ok)
		}
	}
}

func TestLeastLeavesItsList(t *testing.T) {
	list := []int16{3, -2, 7, -9, 4}
	if x, ok := Least(list[:3]...); x != -2 || !ok {
		t.Errorf("Least is %d, %v", x, ok)
	}
	if !slices.Equal(list, []int16{3, -2, 7, -9, 4}) {
		t.Errorf("the list is %v", list)
	}
}

func TestThereAndBack(t *testing.T) {
	list := words(4000)
	for _, r := range risen {
		list = append(list, r.w, math.Float64bits(r.x))
	}
	list = append(list, nans...)
	for _, w := range list {
		if x := int64(w); Int(OfInt(x)) != x || OfInt(Int(w)) != w {
			t.Errorf("OfInt, Int: %#x", w)
		}
		a, b := int32(w>>32), int32(w)
		if x, y := Pair(OfPair(a, b)); x != a || y != b {
			t.Errorf("Pair of OfPair(%d, %d) is %d, %d", a, b, x, y)
		}
		if OfPair(Pair(w)) != w {
			t.Errorf("OfPair of Pair(%#x) is %#x", w, OfPair(Pair(w)))
		}
		x := math.Float64frombits(w)
		if y, ok := Real(OfReal(x)); !Same(x, y) || !alike(x, y) || !ok {
			t.Errorf("Real of OfReal(%v) is %v, %v", x, y, ok)
		}
		if y, ok := Real(w); ok && OfReal(y) != w {
			t.Errorf("OfReal of Real(%#x) is %#x", w, OfReal(y))
		}
		if y := Down(Up(x)); x == x && x != inf && (!Same(x, y) || !alike(x, y)) {
			t.Errorf("Down of Up(%v) is %v", x, y)
		}
	}
}

func TestPairsOfWords(t *testing.T) {
	list := words(4000)
	for _, r := range risen {
		list = append(list, math.Float64bits(r.x))
	}
	for i, v := range list[1:] {
		w := list[i]
		a, b := math.Float64frombits(v), math.Float64frombits(w)
		if Compare(a, b) != cmp.Compare(OfReal(a), OfReal(b)) {
			t.Errorf("Compare(%v, %v) is not as the words", a, b)
		}
		if m := Middle(v, w); m < min(v, w) || m > max(v, w) {
			t.Errorf("Middle(%d, %d) is %d", v, w, m)
		}
	}
}

func TestExamples(t *testing.T) {
	if OfInt(0) != 1<<63 || OfInt(-1) != 1<<63-1 || OfInt(-1<<63) != 0 || Int(0) != -1<<63 {
		t.Errorf("OfInt, Int")
	}
	if OfReal(0) != 0x8000000000000000 || OfReal(minus) != 0x7fffffffffffffff || OfReal(1) != 0xbff0000000000000 || OfReal(-1) != 0x400fffffffffffff {
		t.Errorf("OfReal")
	}
	if OfReal(nan) != top {
		t.Errorf("OfReal(NaN)")
	}
	for w, want := range map[uint64]bool{0: false, top - 1: false, 0x000fffffffffffff: true} {
		if x, ok := Real(w); ok != want || ok && x != -inf || !ok && x != 0 {
			t.Errorf("Real(%#x) is %v, %v", w, x, ok)
		}
	}
	a, b := Pair(0)
	if OfPair(0, 0) != 0x8000000080000000 || OfPair(-1, 5) != 0x7fffffff80000005 || a != -1<<31 || b != -1<<31 {
		t.Errorf("OfPair, Pair")
	}
	if Compare(minus, 0) != -1 || Compare(nan, inf) != 1 || Compare(nan, nan) != 0 || Same(minus, 0) {
		t.Errorf("Compare, Same")
	}
	for _, c := range []struct {
		x  float64
		n  int64
		ok bool
	}{{3, 3, true}, {minus, 0, true}, {2.5, 0, false}, {1 << 63, 0, false}, {-1 << 63, -1 << 63, true}} {
		if n, ok := Whole(c.x); n != c.n || ok != c.ok {
			t.Errorf("Whole(%v) is %d, %v", c.x, n, ok)
		}
	}
	if x, ok := Nearest(1<<53 + 1); x != 1<<53 || ok {
		t.Errorf("Nearest(2^53 + 1) is %v, %v", x, ok)
	}
	if x, ok := Nearest(1<<53 + 2); x != 1<<53+2 || !ok {
		t.Errorf("Nearest(2^53 + 2) is %v, %v", x, ok)
	}
	if !alike(Up(minus), 0) || Up(0) != 5e-324 || !alike(Up(inf), nan) || Down(nan) != inf || !alike(Down(5e-324), 0) {
		t.Errorf("Up, Down")
	}
	if Middle(3, 8) != 5 || Middle(8, 3) != 5 || Middle(0, top) != 1<<63-1 {
		t.Errorf("Middle")
	}
	if x, ok := Least[int8](3, -2, 7); x != -2 || !ok {
		t.Errorf("Least(3, -2, 7) is %d, %v", x, ok)
	}
	if x, ok := Least(nan, 0, minus); !alike(x, minus) || !ok {
		t.Errorf("Least(NaN, 0, -0) is %v, %v", x, ok)
	}
	if x, ok := Least[int16](); x != 0 || ok {
		t.Errorf("Least() is %d, %v", x, ok)
	}
}
