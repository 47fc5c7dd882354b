package atoms

import (
	"math"
	"reflect"
	"runtime"
	"slices"
	"testing"
	"time"

	"parley/api"
)

// touches are of addresses and words in turn.
func touches(list ...uint64) []api.Touch {
	var out []api.Touch
	for i := 0; i < len(list); i += 2 {
		out = append(out, api.Touch{Addr: list[i], Word: list[i+1]})
	}
	return out
}

// alike holds lists of lists against each other, to which nil and empty lists are the same.
func alike[T comparable](a, b [][]T) bool {
	return slices.EqualFunc(a, b, func(x, y []T) bool { return slices.Equal(x, y) })
}

// noneLeft asks whether all goroutines of a call have ended; one that has said so may take a moment.
func noneLeft(t *testing.T, what string, call func()) {
	t.Helper()
	ahead := runtime.NumGoroutine()
	call()
	for range 1000 {
		if runtime.NumGoroutine() <= ahead {
			return
		}
		time.Sleep(time.Millisecond)
	}
	t.Errorf("%s leaves %d goroutines", what, runtime.NumGoroutine()-ahead)
}

func TestMixedErrors(t *testing.T) { // P2.7
	full := make([][]api.Touch, api.MaxCrew)
	over := make([][]api.Touch, api.MaxCrew+1)
	far := [][]api.Touch{touches(0, 1), touches(0, 1, 1, 1)}
	farOver := append(slices.Clone(over[:api.MaxCrew]), touches(top, 1))
	rows := []struct {
		what  string
		cells int
		first []uint64
		op    api.Mix
		lists [][]api.Touch
		want  api.Errno
	}{
		{"no cells", 0, nil, api.MixAdd, nil, api.ErrArg},
		{"cells below 0", math.MinInt, nil, api.MixAdd, nil, api.ErrArg},
		{"too many cells", api.MaxCells + 1, nil, api.MixAdd, nil, api.ErrArg},
		{"too many first words", 1, []uint64{1, 2}, api.MixAdd, nil, api.ErrArg},
		{"the op 0", 1, nil, 0, nil, api.ErrArg},
		{"the op 8", 1, nil, 8, nil, api.ErrArg},
		{"the op -1", 1, nil, -1, nil, api.ErrArg},
		{"as many lists as may be", 1, []uint64{3}, api.MixAdd, full, api.OK},
		{"one list more", 1, nil, api.MixAdd, over, api.ErrArg},
		{"an address of no cell", 1, nil, api.MixAdd, far, api.ErrRange},
		{"an address far off", 1, nil, api.MixAdd, [][]api.Touch{touches(top, 1)}, api.ErrRange},
		{"an address behind the last cell", api.MaxCells, nil, api.MixAdd, [][]api.Touch{touches(api.MaxCells-1, 1, api.MaxCells, 1)}, api.ErrRange},
		{"no cells, and an address", 0, nil, api.MixAdd, far, api.ErrArg},
		{"too many first words, and an address", 1, []uint64{1, 2}, api.MixAdd, far, api.ErrArg},
		{"no op, and an address", 1, nil, 8, far, api.ErrArg},
		{"too many lists, and an address", 1, nil, api.MixAdd, farOver, api.ErrArg},
	}
	for _, row := range rows {
		words, err := Mixed(row.cells, row.first, row.op, row.lists...)
		if err != row.want || err != api.OK && words != nil {
			t.Errorf("%s: Mixed is %v, %v, not %v", row.what, words, err, row.want)
		}
	}
	if words, err := Mixed(api.MaxCells, nil, api.MixAdd, touches(api.MaxCells-1, 5)); err != api.OK || len(words) != api.MaxCells || words[api.MaxCells-1] != 5 {
		t.Errorf("Mixed at the last cell: %v", err)
	}
}

func TestMixedWithoutLists(t *testing.T) { // P2.7
	for _, op := range mixes {
		if words, err := Mixed(3, []uint64{4, 5}, op); err != api.OK || !slices.Equal(words, []uint64{4, 5, 0}) {
			t.Errorf("Mixed of no lists is %v, %v", words, err)
		}
		if words, err := Mixed(2, nil, op, nil, []api.Touch{}); err != api.OK || !slices.Equal(words, []uint64{0, 0}) {
			t.Errorf("Mixed of empty lists is %v, %v", words, err)
		}
	}
}

// mixedBy is what touches make of words, one behind the other.
func mixedBy(op api.Mix, words []uint64, all []api.Touch) []uint64 {
	words = slices.Clone(words)
	for _, touch := range all {
		words[touch.Addr] = mixOf(op, words[touch.Addr], touch.Word)
	}
	return words
}

// cut cuts touches into lists, some of which may be empty.
func cut(d *drawn, all []api.Touch, count int) [][]api.Touch {
	lists := make([][]api.Touch, count)
	for _, touch := range all {
		own := d.below(count)
		lists[own] = append(lists[own], touch)
	}
	return lists
}

// TestMixedByAnyOrder: neither the order, nor how the lists are cut, makes a difference.
func TestMixedByAnyOrder(t *testing.T) { // P2.7, P2.12
	var d drawn
	for _, op := range mixes {
		for _, count := range []int{1, 2, 7, api.MaxCrew} {
			first := []uint64{d.word(), d.word() | 1, top, 0, 1}
			var all []api.Touch
			for range 600 {
				word := d.word()
				if op == api.MixMul {
					word |= 1 // so that not all comes to 0
				}
				all = append(all, api.Touch{Addr: uint64(d.below(5)), Word: word})
			}
			want := mixedBy(op, first, all)
			for range 4 {
				got, err := Mixed(5, first, op, cut(&d, all, count)...)
				if err != api.OK || !slices.Equal(got, want) {
					t.Errorf("Mixed by %d in %d lists is %v, %v, not %v", op, count, got, err, want)
				}
				for i := range all {
					j := d.below(i + 1)
					all[i], all[j] = all[j], all[i]
				}
			}
		}
	}
}

func TestDealErrors(t *testing.T) { // P2.8
	ones := make([]int, api.MaxCrew+1)
	for i := range ones {
		ones[i] = 1
	}
	rows := []struct {
		what string
		each []int
		want api.Errno
	}{
		{"as many as may be", ones[:api.MaxCrew], api.OK},
		{"one more", ones, api.ErrArg},
		{"one more, of no tickets", make([]int, api.MaxCrew+1), api.ErrArg},
		{"one below 0", []int{1, -1}, api.ErrArg},
		{"one far below 0", []int{math.MinInt}, api.ErrArg},
		{"the last one below 0", []int{0, 0, 5, -5}, api.ErrArg},
		{"all tickets to one", []int{1 << 20}, api.OK},
		{"all tickets to two", []int{1 << 19, 1 << 19}, api.OK},
		{"one ticket too many", []int{1<<20 + 1}, api.ErrArg},
		{"one ticket too many together", []int{1 << 19, 1, 1 << 19}, api.ErrArg},
		{"too many behind all", []int{1 << 20, 0, 1}, api.ErrArg},
		{"too many, of which one is below 0", []int{1<<20 + 1, -1}, api.ErrArg},
		{"a sum that goes round", []int{math.MaxInt, math.MaxInt, 2}, api.ErrArg},
		{"a great one", []int{math.MaxInt}, api.ErrArg},
	}
	for _, row := range rows {
		got, err := Deal(3, row.each...)
		if err != row.want || err != api.OK && got != nil {
			t.Errorf("%s: Deal is %d lists, %v, not %v", row.what, len(got), err, row.want)
		}
		if err == api.OK {
			dealt(t, 3, row.each, got)
		}
	}
}

// dealt asks for all that P2.8 and P2.12 say of tickets that were dealt.
func dealt(t *testing.T, first uint64, each []int, got [][]uint64) {
	t.Helper()
	if len(got) != len(each) {
		t.Fatalf("%d lists for %d numbers", len(got), len(each))
	}
	var all []uint64
	for own, list := range got {
		if len(list) != each[own] || cap(list) != len(list) {
			t.Fatalf("%d tickets, with room for %d, not %d", len(list), cap(list), each[own])
		}
		for i, ticket := range list {
			if i > 0 && ticket-first <= list[i-1]-first {
				t.Fatalf("%d stands behind %d", ticket, list[i-1])
			}
			all = append(all, ticket-first)
		}
	}
	slices.Sort(all)
	for i, ticket := range all {
		if ticket != uint64(i) {
			t.Fatalf("the ticket at %d from %d on is %d", i, first, ticket)
		}
	}
}

func TestDeal(t *testing.T) { // P2.8, P2.12
	many := make([]int, api.MaxCrew)
	for i := range many {
		many[i] = i * 20
	}
	for _, each := range [][]int{nil, {0}, {1}, {0, 0}, {0, 3, 0}, {5, 5, 5}, {2000, 1, 2000}, many} {
		for _, first := range []uint64{0, 1, 1 << 40, top - 10, top} {
			got, err := Deal(first, each...)
			errno(t, "Deal", err, api.OK)
			dealt(t, first, each, got)
		}
	}
}

// TestDealOwn: a list of its own each.
func TestDealOwn(t *testing.T) {
	got, _ := Deal(0, 3, 3)
	other := slices.Clone(got[1])
	clear(got[0])
	_ = append(got[0], 99)
	if !slices.Equal(got[1], other) {
		t.Error("two lists share memory")
	}
}

func TestClaimErrors(t *testing.T) { // P2.9
	full := make([][]uint64, api.MaxCrew)
	over := make([][]uint64, api.MaxCrew+1)
	rows := []struct {
		what  string
		cells int
		lists [][]uint64
		want  api.Errno
	}{
		{"no cells", 0, nil, api.ErrArg},
		{"cells below 0", -1, nil, api.ErrArg},
		{"too many cells", api.MaxCells + 1, nil, api.ErrArg},
		{"as many cells as may be", api.MaxCells, [][]uint64{{api.MaxCells - 1}}, api.OK},
		{"as many lists as may be", 1, full, api.OK},
		{"one list more", 1, over, api.ErrArg},
		{"an address behind the last cell", api.MaxCells, [][]uint64{{api.MaxCells}}, api.ErrRange},
		{"a last address of no cell", 2, [][]uint64{{0, 1}, nil, {1, 0, 2}}, api.ErrRange},
		{"an address far off", 2, [][]uint64{{top}}, api.ErrRange},
		{"no cells, and an address", 0, [][]uint64{{0}}, api.ErrArg},
		{"too many cells, and an address", api.MaxCells + 1, [][]uint64{{top}}, api.ErrArg},
		{"too many lists, and an address", 1, append(slices.Clone(over[:api.MaxCrew]), []uint64{1}), api.ErrArg},
	}
	for _, row := range rows {
		got, err := Claim(row.cells, row.lists...)
		if err != row.want || err != api.OK && got != nil {
			t.Errorf("%s: Claim is %v, %v, not %v", row.what, got, err, row.want)
		}
		if err == api.OK {
			claimed(t, row.lists, got)
		}
	}
}

// claimed asks for all that P2.9 and P2.12 say of addresses that were claimed.
func claimed(t *testing.T, lists [][]uint64, got [][]bool) {
	t.Helper()
	if len(got) != len(lists) {
		t.Fatalf("%d answers to %d lists", len(got), len(lists))
	}
	times := map[uint64]int{}
	for own, list := range lists {
		if len(got[own]) != len(list) || cap(got[own]) != len(list) {
			t.Fatalf("%d answers to %d addresses, with room for %d", len(got[own]), len(list), cap(got[own]))
		}
		for i, addr := range list {
			times[addr] += 0
			if got[own][i] {
				times[addr]++
				// Whoever claims an address does so where it stands first in the list.
				if slices.Index(list, addr) != i {
					t.Fatalf("%d is claimed at %d", addr, i)
				}
			}
		}
	}
	for addr, n := range times {
		if n != 1 {
			t.Fatalf("%d is claimed %d times", addr, n)
		}
	}
}

func TestClaim(t *testing.T) { // P2.9, P2.12
	var d drawn
	for _, cells := range []int{1, 2, 50, 1000} {
		for _, count := range []int{0, 1, 2, 9, api.MaxCrew} {
			lists := make([][]uint64, count)
			for own := range lists {
				for range d.below(100) {
					lists[own] = append(lists[own], uint64(d.below(cells)))
				}
			}
			got, err := Claim(cells, lists...)
			errno(t, "Claim", err, api.OK)
			claimed(t, lists, got)
		}
	}
	// All go the same way, so that they meet.
	way := make([]uint64, 2000)
	for i := range way {
		way[i] = uint64(i)
	}
	lists := make([][]uint64, api.MaxCrew)
	for own := range lists {
		lists[own] = way
	}
	got, _ := Claim(len(way), lists...)
	claimed(t, lists, got)
}

func TestClaimAlone(t *testing.T) { // P2.9
	got, err := Claim(4, []uint64{3, 0, 3, 3, 1, 0})
	if want := [][]bool{{true, true, false, false, true, false}}; err != api.OK || !alike(got, want) {
		t.Errorf("Claim is %v, %v, not %v", got, err, want)
	}
	got, err = Claim(4, []uint64{0}, []uint64{1}, nil, []uint64{2, 3})
	if want := [][]bool{{true}, {true}, {}, {true, true}}; err != api.OK || !alike(got, want) {
		t.Errorf("Claim is %v, %v, not %v", got, err, want)
	}
}

func TestFirst(t *testing.T) { // P2.10, P2.12
	words := make([]uint64, api.MaxCrew+1)
	for i := range words {
		words[i] = top - uint64(i)
	}
	if heard, n, err := First(words...); heard != nil || n != 0 || err != api.ErrArg {
		t.Errorf("First of %d words is %v, %d, %v", len(words), heard, n, err)
	}
	for range 50 {
		for _, count := range []int{1, 2, 3, api.MaxCrew} {
			heard, n, err := First(words[:count]...)
			if len(heard) != count || n != 1 || err != api.OK {
				t.Fatalf("First of %d words is %v, %d, %v", count, heard, n, err)
			}
			if !slices.Contains(words[:count], heard[0]) {
				t.Errorf("%d was not handed in", heard[0])
			}
			for _, word := range heard {
				if word != heard[0] {
					t.Fatalf("some are told %d, some %d", word, heard[0])
				}
			}
		}
	}
	if heard, n, err := First(); len(heard) != 0 || n != 0 || err != api.OK {
		t.Errorf("First of no words is %v, %d, %v", heard, n, err)
	}
	if heard, n, err := First(0, 0); !slices.Equal(heard, []uint64{0, 0}) || n != 1 || err != api.OK {
		t.Errorf("First(0, 0) is %v, %d, %v", heard, n, err)
	}
}

func TestTurnsErrors(t *testing.T) { // P2.11
	acts := func(kinds ...api.ActKind) []api.Act {
		var out []api.Act
		for _, kind := range kinds {
			out = append(out, api.Act{Kind: kind, Mix: api.MixAdd})
		}
		return out
	}
	mixAct := func(op api.Mix, addr uint64) []api.Act { return []api.Act{{Kind: api.ActMix, Mix: op, Addr: addr}} }
	load := func(addr uint64) []api.Act { return []api.Act{{Kind: api.ActLoad, Addr: addr}} }
	over := make([][]api.Act, api.MaxCrew+1)
	rows := []struct {
		what  string
		cells int
		first []uint64
		lists [][]api.Act
		want  api.Errno
	}{
		{"no cells", 0, nil, nil, api.ErrArg},
		{"cells below 0", -1, nil, nil, api.ErrArg},
		{"too many cells", api.MaxCells + 1, nil, nil, api.ErrArg},
		{"too many first words", 1, []uint64{1, 2}, nil, api.ErrArg},
		{"as many lists as may be", 1, nil, over[1:], api.OK},
		{"one list more", 1, nil, over, api.ErrArg},
		{"the kind 0", 1, nil, [][]api.Act{acts(0)}, api.ErrArg},
		{"the kind 6", 1, nil, [][]api.Act{acts(1), acts(2, 3, 6)}, api.ErrArg},
		{"the kind -1", 1, nil, [][]api.Act{acts(-1)}, api.ErrArg},
		{"a great kind", 1, nil, [][]api.Act{acts(math.MaxInt)}, api.ErrArg},
		{"all kinds", 1, nil, [][]api.Act{acts(1, 2, 3, 4, 5)}, api.OK},
		{"the mix 0", 1, nil, [][]api.Act{mixAct(0, 0)}, api.ErrArg},
		{"the mix 8", 1, nil, [][]api.Act{nil, mixAct(8, 0)}, api.ErrArg},
		{"the mix -1", 1, nil, [][]api.Act{mixAct(-1, 0)}, api.ErrArg},
		{"a mix that is none where none is asked for", 1, nil, [][]api.Act{{{Kind: api.ActLoad, Mix: 8}, {Kind: api.ActStore}, {Kind: api.ActSwap, Mix: -1}, {Kind: api.ActCas, Mix: 99}}}, api.OK},
		{"the last cell", api.MaxCells, nil, [][]api.Act{load(api.MaxCells - 1)}, api.OK},
		{"an address behind the last cell", api.MaxCells, nil, [][]api.Act{load(0), load(api.MaxCells)}, api.ErrRange},
		{"an address far off", 1, nil, [][]api.Act{mixAct(api.MixOr, top)}, api.ErrRange},
		{"no cells, and an address", 0, nil, [][]api.Act{load(0)}, api.ErrArg},
		{"too many lists, and an address", 1, nil, append(slices.Clone(over[1:]), load(1)), api.ErrArg},
		{"an address, and a kind behind it", 1, nil, [][]api.Act{load(9), acts(7)}, api.ErrArg},
		{"an address, and a mix behind it", 1, nil, [][]api.Act{load(9), mixAct(8, 0)}, api.ErrArg},
		{"a kind and an address in one", 1, nil, [][]api.Act{{{Addr: 5}}}, api.ErrArg},
	}
	for _, row := range rows {
		for _, picks := range [][]uint32{nil, {0, 1, 2, math.MaxUint32}} {
			answers, words, err := Turns(row.cells, row.first, row.lists, picks)
			if err != row.want || err != api.OK && (answers != nil || words != nil) {
				t.Errorf("%s: Turns is %v, %d words, %v, not %v", row.what, answers, len(words), err, row.want)
			}
			if err == api.OK && len(answers) != len(row.lists) {
				t.Errorf("%s: %d answers to %d lists", row.what, len(answers), len(row.lists))
			}
		}
	}
}

func TestTurnsWithoutLists(t *testing.T) { // P2.11
	for _, picks := range [][]uint32{nil, {}, {0}, {1, 2, math.MaxUint32}} {
		answers, words, err := Turns(3, []uint64{4, 5}, nil, picks)
		if len(answers) != 0 || !slices.Equal(words, []uint64{4, 5, 0}) || err != api.OK {
			t.Errorf("Turns of no lists is %v, %v, %v", answers, words, err)
		}
		answers, words, err = Turns(1, nil, [][]api.Act{nil, {}}, picks)
		if !alike(answers, [][]uint64{nil, nil}) || !slices.Equal(words, []uint64{0}) || err != api.OK {
			t.Errorf("Turns of empty lists is %v, %v, %v", answers, words, err)
		}
	}
}

// TestEachKind: one act of each kind, alone.
func TestEachKind(t *testing.T) { // P2.11
	for _, row := range []struct {
		act    api.Act
		answer uint64
		word   uint64
	}{
		{api.Act{Kind: api.ActLoad, Word: 9, Old: 6}, 6, 6},
		{api.Act{Kind: api.ActStore, Word: 9}, 6, 9},
		{api.Act{Kind: api.ActSwap, Word: 9}, 6, 9},
		{api.Act{Kind: api.ActCas, Word: 9, Old: 6}, 1, 9},
		{api.Act{Kind: api.ActCas, Word: 9, Old: 5}, 0, 6},
		{api.Act{Kind: api.ActMix, Mix: api.MixAdd, Word: 9}, 6, 15},
		{api.Act{Kind: api.ActMix, Mix: api.MixMul, Word: 9}, 6, 54},
		{api.Act{Kind: api.ActMix, Mix: api.MixAnd, Word: 9}, 6, 0},
		{api.Act{Kind: api.ActMix, Mix: api.MixOr, Word: 9}, 6, 15},
		{api.Act{Kind: api.ActMix, Mix: api.MixXor, Word: 3}, 6, 5},
		{api.Act{Kind: api.ActMix, Mix: api.MixMax, Word: 9}, 6, 9},
		{api.Act{Kind: api.ActMix, Mix: api.MixMin, Word: 2}, 6, 2},
	} {
		row.act.Addr = 1
		answers, words, err := Turns(3, []uint64{7, 6, 7}, [][]api.Act{{row.act}}, nil)
		if !alike(answers, [][]uint64{{row.answer}}) || !slices.Equal(words, []uint64{7, row.word, 7}) || err != api.OK {
			t.Errorf("%v: %v, %v, %v", row.act, answers, words, err)
		}
	}
}

// acted is what lists of acts come to if the lists in order do one act each.
func acted(words []uint64, lists [][]api.Act, order []int) ([][]uint64, []uint64) {
	words = slices.Clone(words)
	answers := make([][]uint64, len(lists))
	for _, own := range order {
		act := lists[own][len(answers[own])]
		word := &words[act.Addr]
		answer := *word
		switch act.Kind {
		case api.ActStore, api.ActSwap:
			*word = act.Word
		case api.ActCas:
			answer = 0
			if *word == act.Old {
				*word, answer = act.Word, 1
			}
		case api.ActMix:
			*word = mixOf(act.Mix, *word, act.Word)
		}
		answers[own] = append(answers[own], answer)
	}
	return answers, words
}

// orderOf is whose turn it is, by picks and behind them.
func orderOf(lists [][]api.Act, picks []uint32) []int {
	var order []int
	left := make([]int, len(lists))
	for own := range lists {
		left[own] = len(lists[own])
	}
	for _, pick := range picks {
		if len(lists) > 0 && left[uint64(pick)%uint64(len(lists))] > 0 {
			own := int(uint64(pick) % uint64(len(lists)))
			order = append(order, own)
			left[own]--
		}
	}
	for own, count := range left {
		for range count {
			order = append(order, own)
		}
	}
	return order
}

// drawnActs are lists of acts over few cells, with few words, so that a Cas may go well.
func drawnActs(d *drawn, cells, count, most int) [][]api.Act {
	lists := make([][]api.Act, count)
	for own := range lists {
		for range d.below(most + 1) {
			lists[own] = append(lists[own], api.Act{
				Kind: api.ActKind(1 + d.below(5)), Mix: mixes[d.below(7)],
				Addr: uint64(d.below(cells)), Word: d.word() % 5, Old: uint64(d.below(4)),
			})
		}
	}
	return lists
}

func TestTurns(t *testing.T) { // P2.11
	var d drawn
	for i := range 400 {
		cells, count := 1+d.below(4), 1+d.below(6)
		if i%20 == 0 {
			count = api.MaxCrew
		}
		lists := drawnActs(&d, cells, count, 12)
		picks := make([]uint32, d.below(80))
		for i := range picks {
			picks[i] = uint32(d.next()) // far above the number of lists, too
			if d.below(2) == 0 {
				picks[i] %= 8
			}
		}
		first := make([]uint64, cells)
		for i := range first {
			first[i] = uint64(d.below(4))
		}
		wantAnswers, wantWords := acted(first, lists, orderOf(lists, picks))
		answers, words, err := Turns(cells, first, lists, picks)
		if err != api.OK || !alike(answers, wantAnswers) || !slices.Equal(words, wantWords) {
			t.Fatalf("Turns(%v, %v, %v) is %v, %v, %v, not %v, %v", first, lists, picks, answers, words, err, wantAnswers, wantWords)
		}
		for own := range answers {
			if cap(answers[own]) != len(lists[own]) {
				t.Fatalf("an answer of %d has room for %d", len(lists[own]), cap(answers[own]))
			}
		}
	}
}

// TestTurnsBack: behind the picks the first one does all of its own, then the second one.
func TestTurnsBack(t *testing.T) { // P2.11
	list := func(words ...uint64) []api.Act {
		var out []api.Act
		for _, word := range words {
			out = append(out, api.Act{Kind: api.ActSwap, Word: word})
		}
		return out
	}
	lists := [][]api.Act{list(1, 2, 3), list(4), list(5, 6)}
	for _, row := range []struct {
		picks []uint32
		want  [][]uint64
	}{
		{nil, [][]uint64{{0, 1, 2}, {3}, {4, 5}}},
		{[]uint32{2}, [][]uint64{{5, 1, 2}, {3}, {0, 4}}},
		{[]uint32{5, 4, 3}, [][]uint64{{4, 1, 2}, {5}, {0, 3}}},
		{[]uint32{1, 1, 1, 4, 7, 0}, [][]uint64{{4, 1, 2}, {0}, {3, 5}}},
		{[]uint32{math.MaxUint32, math.MaxUint32 - 1}, [][]uint64{{0, 5, 2}, {3}, {1, 4}}},
	} {
		answers, _, err := Turns(1, nil, lists, row.picks)
		if err != api.OK || !alike(answers, row.want) {
			t.Errorf("by the picks %v Turns is %v, %v, not %v", row.picks, answers, err, row.want)
		}
	}
}

// TestTurnsOfOne: what its acts do by themselves, whatever the picks.
func TestTurnsOfOne(t *testing.T) { // P2.12
	var d drawn
	for range 50 {
		lists := drawnActs(&d, 3, 1, 40)
		c := made(t, 3, 1, 2)
		var want []uint64
		for _, act := range lists[0] {
			var answer uint64
			switch act.Kind {
			case api.ActLoad:
				answer, _ = c.Load(act.Addr)
			case api.ActStore:
				answer, _ = c.Load(act.Addr)
				c.Store(act.Addr, act.Word)
			case api.ActSwap:
				answer, _ = c.Swap(act.Addr, act.Word)
			case api.ActCas:
				if is, _ := c.Cas(act.Addr, act.Old, act.Word); is {
					answer = 1
				}
			case api.ActMix:
				answer, _ = c.Do(act.Mix, act.Addr, act.Word)
			}
			want = append(want, answer)
		}
		for _, picks := range [][]uint32{nil, {0}, {7, 8, 9}, make([]uint32, 100)} {
			answers, words, err := Turns(3, []uint64{1, 2}, lists, picks)
			if err != api.OK || !alike(answers, [][]uint64{want}) || !slices.Equal(words, c.Words()) {
				t.Fatalf("Turns of %v is %v, %v, %v, not %v, %v", lists, answers, words, err, want, c.Words())
			}
		}
	}
}

func TestNoGoroutineIsLeft(t *testing.T) { // 'Words'
	lists := make([][]api.Act, api.MaxCrew)
	for own := range lists {
		lists[own] = []api.Act{{Kind: api.ActSwap, Word: uint64(own)}, {Kind: api.ActLoad}}
	}
	full := make([][]api.Touch, api.MaxCrew)
	for own := range full {
		full[own] = touches(0, 1)
	}
	noneLeft(t, "Mixed", func() { Mixed(1, nil, api.MixAdd, full...) })
	noneLeft(t, "Deal", func() { Deal(0, 5, 5, 5) })
	noneLeft(t, "Claim", func() { Claim(2, []uint64{0, 1}, []uint64{1, 0}) })
	noneLeft(t, "First", func() { First(1, 2, 3, 4) })
	noneLeft(t, "Turns", func() { Turns(1, nil, lists, []uint32{63, 62, 63, 63, 0}) })
	noneLeft(t, "Turns of no lists", func() { Turns(1, nil, nil, []uint32{1, 2}) })
	noneLeft(t, "a refused Turns", func() { Turns(1, nil, [][]api.Act{{{Kind: 1, Addr: 1}}}, []uint32{1, 2}) })
}

// TestHandedInStays: what is handed in is as it was, the room behind it included.
func TestHandedInStays(t *testing.T) {
	first := []uint64{1, 2, 3}
	touched := touches(0, 5, 1, 6, 2, 7)
	each := []int{2, 3, 4}
	claims := []uint64{0, 1, 0}
	acts := []api.Act{{Kind: api.ActStore, Word: 4}, {Kind: api.ActLoad}, {Kind: api.ActSwap, Word: 5}}
	picks := []uint32{9, 8, 7}
	all := func() []any {
		return []any{slices.Clone(first), slices.Clone(touched), slices.Clone(each), slices.Clone(claims), slices.Clone(acts), slices.Clone(picks)}
	}
	ahead := all()
	words, _ := Mixed(3, first[:2], api.MixAdd, touched[:2], touched[:1])
	clear(words)
	Deal(0, each[:2]...)
	Claim(2, claims[:2], claims[:1])
	heard, _, _ := First(first[:2]...)
	clear(heard)
	answers, words, _ := Turns(3, first[:2], [][]api.Act{acts[:2], acts[:1]}, picks[:2])
	clear(words)
	for _, answer := range answers {
		clear(answer)
		_ = append(answer, 99)
	}
	if !reflect.DeepEqual(all(), ahead) {
		t.Errorf("what was handed in is %v, not %v", all(), ahead)
	}
}

// TestCrewsExamples: the chapter's examples of the crews, row by row.
func TestCrewsExamples(t *testing.T) {
	for _, row := range []struct {
		cells int
		first []uint64
		op    api.Mix
		lists [][]api.Touch
		want  []uint64
	}{
		{2, []uint64{1}, api.MixAdd, [][]api.Touch{touches(0, 5, 1, 1), touches(0, top), nil}, []uint64{5, 1}},
		{1, []uint64{6}, api.MixMul, [][]api.Touch{touches(0, 7), touches(0, 2)}, []uint64{84}},
		{1, nil, api.MixMin, [][]api.Touch{touches(0, 1)}, []uint64{0}},
	} {
		if words, err := Mixed(row.cells, row.first, row.op, row.lists...); err != api.OK || !slices.Equal(words, row.want) {
			t.Errorf("Mixed is %v, %v, not %v", words, err, row.want)
		}
	}
	if got, err := Deal(5, 0, 0); err != api.OK || !alike(got, [][]uint64{{}, {}}) {
		t.Errorf("Deal(5, 0, 0) is %v, %v", got, err)
	}
	if got, err := Deal(0, 1, -1); err != api.ErrArg || got != nil {
		t.Errorf("Deal(0, 1, -1) is %v, %v", got, err)
	}
	if got, err := Deal(9, 2); err != api.OK || !alike(got, [][]uint64{{9, 10}}) {
		t.Errorf("Deal(9, 2) is %v, %v", got, err)
	}
	if got, err := Claim(3, []uint64{2, 2}, nil); err != api.OK || !alike(got, [][]bool{{true, false}, {}}) {
		t.Errorf("Claim is %v, %v", got, err)
	}
	if heard, n, err := First(); err != api.OK || n != 0 || len(heard) != 0 {
		t.Errorf("First() is %v, %d, %v", heard, n, err)
	}
	if heard, n, err := First(4); err != api.OK || n != 1 || !slices.Equal(heard, []uint64{4}) {
		t.Errorf("First(4) is %v, %d, %v", heard, n, err)
	}
	lists := [][]api.Act{{{Kind: api.ActLoad}, {Kind: api.ActCas, Old: 5, Word: 7}}, {{Kind: api.ActStore, Word: 6}}}
	answers, words, err := Turns(1, []uint64{5}, lists, []uint32{0, 1, 0})
	if err != api.OK || !alike(answers, [][]uint64{{5, 0}, {5}}) || !slices.Equal(words, []uint64{6}) {
		t.Errorf("Turns is %v, %v, %v", answers, words, err)
	}
}
