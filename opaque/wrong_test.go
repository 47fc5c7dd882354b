package opaque

import (
	"math"
	"slices"
	"testing"

	"parley/api"
	"parley/events"
)

// answer is what a call says of what is wrong, and whether all else that it answers is zero.
type answer struct {
	odd  api.Odd
	zero bool
}

// answers is what all five calls say.
func answers(first []uint64, h []api.Event, n int, words ...api.Cell) map[string]answer {
	sights, a := Sights(first, h)
	place, b := Check(first, h)
	cells, c := Behind(first, h, n)
	numbers, d := Together(first, h, words...)
	never, e := Never(first, h)
	return map[string]answer{
		"Sights": {a, sights == nil}, "Check": {b, place == 0}, "Behind": {c, cells == nil}, "Together": {d, numbers == nil}, "Never": {e, never == nil},
	}
}

// refused asks all five calls, whatever else they are given, for one refusal.
func refused(t *testing.T, first []uint64, h []api.Event, want api.Odd) {
	t.Helper()
	for _, n := range []int{0, -1, math.MaxInt} {
		for _, words := range [][]api.Cell{nil, {{Addr: top}}} {
			for name, a := range answers(first, h, n, words...) {
				if a.odd != want || !a.zero {
					t.Errorf("%s of %d words, %v answers %v (nothing else: %v), not %v", name, len(first), h, a.odd, a.zero, want)
				}
			}
		}
	}
}

// taken asks all five calls whether they refuse nothing.
func taken(t *testing.T, first []uint64, h []api.Event) {
	t.Helper()
	for name, a := range answers(first, h, 0) {
		if a.odd != fine {
			t.Errorf("%s of %d words, %s answers %v", name, len(first), asText(h), a.odd)
		}
	}
}

// impossible are histories that can't be, some for each error that events.Check tells.
func impossible() map[api.Errno][][]api.Event {
	fine := hist("0 begin 0, 0 read 1 5, 0 committed 0, 1 begin 0, 1 write 0 1, 1 locked, 1 committed 1")
	behind := func(text string) []api.Event { return append(slices.Clip(fine), hist(text)...) }
	unformed := func(e api.Event) []api.Event { return append(slices.Clip(fine), e) }
	return map[api.Errno][][]api.Event{
		api.ErrForm: {
			{{}}, unformed(api.Event{Kind: api.Begin, Word: 1}), unformed(api.Event{Thread: 8, Kind: api.Begin, Word: 2}), unformed(api.Event{Thread: -1, Kind: api.Halted}),
			unformed(api.Event{Thread: math.MaxInt, Kind: api.Loaded}), unformed(api.Event{Thread: math.MinInt, Kind: api.Stored}), unformed(api.Event{Kind: 13}), unformed(api.Event{Kind: api.Failed, Err: api.ErrPlace}),
		},
		api.ErrTurn:   {hist("0 locked"), behind("0 read 0 1"), behind("1 committed 1"), behind("0 halted, 0 begin 2"), behind("0 failed 5"), behind("0 begin 2, 0 loaded 0 1")},
		api.ErrLock:   {behind("0 begin 2, 1 begin 2, 0 write 0 1, 0 locked, 1 moved 2"), behind("0 begin 2, 0 write 0 1, 0 locked, 1 begin 2")},
		api.ErrNumber: {hist("0 begin 2"), behind("0 begin 0"), behind("0 begin 2, 0 committed 2"), behind("0 begin 2, 0 moved 2"), behind("0 begin 2, 0 write 0 1, 0 locked, 0 committed 1")},
		api.ErrOwn:    {hist("0 begin 0, 0 locked"), behind("0 begin 2, 0 own 1 5"), behind("0 begin 2, 0 write 1 5, 0 read 1 5"), behind("0 begin 2, 0 write 1 5, 0 own 1 6"), behind("0 begin 2, 0 write 1 5, 0 committed 1")},
	}
}

// P16.1: no first words, as many as may be, and one more.
func TestFirstWords(t *testing.T) {
	noWords := api.Odd{At: -1, Err: api.ErrArg}
	histories := [][]api.Event{nil, {}, hist("0 begin 0"), hist("0 begin 0, 0 read 0 0, 0 write 0 1, 0 locked, 0 committed 1")}
	for _, h := range histories {
		taken(t, make([]uint64, 1), h)
		taken(t, make([]uint64, api.MaxCells-1), h)
		taken(t, make([]uint64, api.MaxCells), h)
		refused(t, nil, h, noWords)
		refused(t, []uint64{}, h, noWords)
		refused(t, make([]uint64, 0, 5), h, noWords)
		refused(t, make([]uint64, api.MaxCells+1), h, noWords)
		refused(t, make([]uint64, 3*api.MaxCells), h, noWords)
	}
}

// P16.1: of a history that can't be Check's answer.
func TestWhatCanNotBe(t *testing.T) {
	for want, l := range impossible() {
		for _, h := range l {
			odd := events.Check(h)
			if odd.Err != want {
				t.Fatalf("Check of %v answers %v, not %v", h, odd, want)
			}
			refused(t, []uint64{5, 6, 7}, h, odd)
		}
	}
}

// P16.1: the first Loaded or Stored, wherever it stands; a plain access that failed is none of them.
func TestPlainAccesses(t *testing.T) {
	first := []uint64{5, 6}
	for text, at := range map[string]int{
		"0 loaded 0 5":                          0,
		"0 stored 1 5":                          0,
		"0 begin 0, 1 stored 0 5, 1 loaded 0 5": 1,
		"0 begin 0, 0 stale, 3 loaded 0 5, 0 halted, 2 stored 0 1": 2,
		wrote + ", 0 halted, 7 begin 2, 6 stored 0 3":              7,
		// Of no cell: that is not asked of plain accesses.
		"0 begin 0, 0 read 0 5, 1 loaded 2 9":                2,
		"0 stored 18446744073709551615 18446744073709551615": 0,
	} {
		refused(t, first, hist(text), api.Odd{At: at, Err: api.ErrPlain})
	}
	for _, text := range []string{"0 failed 4", "0 begin 0, 0 committed 0, 0 failed 4, 1 begin 0", "0 begin 0, 0 failed 4, 1 failed 4, 2 halted"} {
		taken(t, first, hist(text))
	}
}

// P16.1: the first Read or Write of no cell, however its attempt ended.
func TestNoCell(t *testing.T) {
	two := []uint64{5, 6}
	for text, at := range map[string]int{
		"0 begin 0, 0 read 2 5":                                                  1,
		"0 begin 0, 0 write 2 5":                                                 1,
		"0 begin 0, 0 write 2 5, 0 own 2 5":                                      1,
		"0 begin 0, 0 read 1 6, 0 read 3 6, 0 stale":                             2,
		"0 begin 0, 0 write 1 6, 0 write 9 6, 0 aborted, 0 begin 0, 0 read 8 8":  2,
		"0 begin 0, 1 begin 0, 1 read 2 0, 0 write 2 0, 0 locked, 0 committed 1": 2,
		"0 begin 0, 0 read 1 6, 0 write 65536 1, 0 failed 4":                     2,
		wrote + ", 1 begin 2, 1 write 2 1, 1 locked, 1 committed 2":              6,
		"0 begin 0, 0 read 4294967296 5":                                         1,
		"0 begin 0, 0 read 9223372036854775808 5":                                1,
		"0 begin 0, 0 write 18446744073709551615 5":                              1,
	} {
		refused(t, two, hist(text), api.Odd{At: at, Err: api.ErrRange})
	}
	taken(t, two, hist("0 begin 0, 0 read 1 6, 0 write 1 6, 0 own 1 6, 0 locked, 0 committed 1"))
	last := []api.Event{{Kind: api.Begin}, {Kind: api.Read, Addr: api.MaxCells - 1}, {Kind: api.Write, Addr: api.MaxCells - 1}, {Kind: api.Write, Addr: api.MaxCells}}
	taken(t, make([]uint64, api.MaxCells), last[:3])
	refused(t, make([]uint64, api.MaxCells), last, api.Odd{At: 3, Err: api.ErrRange})
	refused(t, make([]uint64, api.MaxCells-1), last, api.Odd{At: 1, Err: api.ErrRange})
}

// P16.1: which of what is wrong comes first, wherever it stands.
func TestWhichComesFirst(t *testing.T) {
	const plain, beyond, odd = "2 loaded 0 5, ", "0 begin 0, 0 read 9 9, ", "1 begin 8"
	first := []uint64{5, 6}
	refused(t, nil, hist(plain+beyond+odd), api.Odd{At: -1, Err: api.ErrArg})
	refused(t, make([]uint64, api.MaxCells+1), hist(odd), api.Odd{At: -1, Err: api.ErrArg})
	refused(t, nil, hist(plain+"2 halted"), api.Odd{At: -1, Err: api.ErrArg})
	refused(t, nil, hist(beyond+"2 halted"), api.Odd{At: -1, Err: api.ErrArg})
	refused(t, first, hist(plain+beyond+odd), api.Odd{At: 3, Err: api.ErrNumber})
	refused(t, first, hist(plain+odd), api.Odd{At: 1, Err: api.ErrNumber})
	refused(t, first, hist(beyond+odd), api.Odd{At: 2, Err: api.ErrNumber})
	refused(t, first, hist(beyond+plain+"1 halted"), api.Odd{At: 2, Err: api.ErrPlain})
	refused(t, first, hist(plain+beyond+"1 halted"), api.Odd{At: 0, Err: api.ErrPlain})
}

// P16.1: Behind takes 0 up to the number of writing commits.
func TestNumbersOfBehind(t *testing.T) {
	first := []uint64{5, 6}
	// Commits that read alone, and attempts that did not commit, are no numbers.
	const more = ", 1 begin 2, 1 read 0 7, 1 committed 1, 1 begin 2, 1 write 1 1, 1 aborted, 2 begin 2, 2 write 0 1, 2 stale, 3 begin 2, 3 write 0 0, 3 failed 6, 4 begin 2, 4 write 0 9, 4 locked"
	for text, most := range map[string]int{
		"": 0, "0 begin 0, 0 committed 0": 0, "0 begin 0, 0 write 0 1": 0, "0 begin 0, 0 write 0 1, 0 locked": 0,
		wrote: 1, wrote + more: 1, wrote + more + ", 4 committed 2": 2,
	} {
		h := hist(text)
		for n := range most + 1 {
			if l, odd := Behind(first, h, n); odd != fine || len(l) != 2 {
				t.Errorf("Behind of %s, %d answers %v, %v", text, n, l, odd)
			}
		}
		for _, n := range []int{-1, -2, math.MinInt, most + 1, most + 2, most + 1<<32, math.MaxInt} {
			if l, odd := Behind(first, h, n); l != nil || odd != (api.Odd{At: -1, Err: api.ErrArg}) {
				t.Errorf("Behind of %s, %d answers %v, %v", text, n, l, odd)
			}
		}
	}
}

// P16.1: Together of words of which one has no cell, first, last or between.
func TestWordsOfNoCell(t *testing.T) {
	first := []uint64{5, 6}
	for _, addr := range []uint64{2, 3, api.MaxCells, 1 << 32, 1 << 63, top} {
		for _, words := range [][]api.Cell{cellList(addr, 0), cellList(addr, 5, 0, 5), cellList(0, 5, addr, 5), cellList(0, 5, addr, 5, 1, 6), cellList(0, 5, 0, 6, addr, 0)} {
			for _, text := range []string{"", wrote} {
				if l, odd := Together(first, hist(text), words...); l != nil || odd != (api.Odd{At: -1, Err: api.ErrRange}) {
					t.Errorf("Together of %v answers %v, %v", words, l, odd)
				}
			}
		}
	}
	many := make([]uint64, api.MaxCells)
	standTogether(t, many, nil, cellList(api.MaxCells-1, 0), 0)
	if l, odd := Together(many, nil, api.Cell{Addr: api.MaxCells}); l != nil || odd != (api.Odd{At: -1, Err: api.ErrRange}) {
		t.Errorf("Together of the address MaxCells answers %v, %v", l, odd)
	}
}
