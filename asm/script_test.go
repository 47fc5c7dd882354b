package asm

import (
	"fmt"
	"math"
	"regexp"
	"slices"
	"strings"
	"testing"

	"parley/api"
)

// modelScript is a script's text, as the chapter has it.
func modelScript(s api.Script) string {
	text := fmt.Sprintf("cells %d\n", s.Cells)
	if len(s.First) > 0 {
		text += "first " + strings.Trim(fmt.Sprint(s.First), "[]") + "\n"
	}
	for _, p := range s.Programs {
		text += "thread\n" + plain(p)
	}
	if len(s.Picks) > 0 {
		text += "picks " + strings.Trim(fmt.Sprint(s.Picks), "[]") + "\n"
	}
	return text
}

// sameScript tells whether two scripts are the same, empty and nil lists being alike.
func sameScript(a, b api.Script) bool {
	return a.Cells == b.Cells && slices.Equal(a.First, b.First) && slices.Equal(a.Picks, b.Picks) &&
		slices.EqualFunc(a.Programs, b.Programs, func(p, q []api.Instr) bool { return slices.Equal(p, q) })
}

// cloneScript is a script that shares no memory with it.
func cloneScript(s api.Script) api.Script {
	c := api.Script{Cells: s.Cells, First: slices.Clone(s.First), Picks: slices.Clone(s.Picks)}
	for _, p := range s.Programs {
		c.Programs = append(c.Programs, slices.Clone(p))
	}
	return c
}

// thereAndBack asks Script for a text and ParseScript for the script.
func thereAndBack(t *testing.T, s api.Script) {
	t.Helper()
	kept := cloneScript(s)
	text, err := Script(s)
	if text != modelScript(kept) || err != api.OK {
		t.Fatalf("Script(%v) answers %.200q, %v, not %.200q", kept, text, err, modelScript(kept))
	}
	if !sameScript(s, kept) {
		t.Fatalf("%v was changed, and is %v", kept, s)
	}
	readsScript(t, text, s)
}

// readsScript asks ParseScript for a script.
func readsScript(t *testing.T, text string, want api.Script) {
	t.Helper()
	got, n, err := ParseScript(text)
	if !sameScript(got, want) || n != strings.Count(text, "\n") || err != api.OK {
		t.Fatalf("ParseScript(%.200q) answers %v, %d, %v, not %v", text, got, n, err, want)
	}
}

// refusesScript asks ParseScript for a refusal and its line.
func refusesScript(t *testing.T, text string, line int) {
	t.Helper()
	got, n, err := ParseScript(text)
	none := got.Cells == 0 && got.First == nil && got.Programs == nil && got.Picks == nil
	if !none || n != line || err != api.ErrAsm {
		t.Fatalf("ParseScript(%.200q) answers %v, %d, %v, not the line %d", text, got, n, err, line)
	}
}

// P9.4, P9.5: with and without first words, programs, picks.
func TestScript(t *testing.T) {
	for _, cells := range []int{0, 1, 4, 9, 10, api.MaxCells, api.MaxCells + 1, math.MaxInt} {
		for _, first := range [][]uint64{nil, {}, {0}, {7}, {top, 0, 10, 1 << 63}, make([]uint64, 300)} {
			for _, programs := range [][][]api.Instr{nil, {}, {nil}, {{}}, {nil, {}, nil}, {{halt}}, {nil, {halt}}, {{halt}, nil}, {{begin, zero(1, 9), end, abort(top)}, {}, {jump(0), halt}}, make([][]api.Instr, 20)} {
				for _, picks := range [][]uint32{nil, {}, {0}, {0, 0}, {math.MaxUint32, 1, 0, 10}, make([]uint32, 300)} {
					thereAndBack(t, api.Script{Cells: cells, First: first, Programs: programs, Picks: picks})
				}
			}
		}
	}
}

// P9.4: the texts, written out.
func TestScriptWrittenOut(t *testing.T) {
	for want, s := range map[string]api.Script{
		"cells 0\n":                                                      {},
		"cells 9223372036854775807\n":                                    {Cells: math.MaxInt64},
		"cells 0\nfirst 18446744073709551615 0\n":                        {First: []uint64{top, 0}},
		"cells 0\npicks 4294967295 0 7\n":                                {Picks: []uint32{math.MaxUint32, 0, 7}},
		"cells 2\nthread\nthread\nthread\n":                              {Cells: 2, Programs: [][]api.Instr{nil, nil, nil}},
		"cells 2\nthread\njump 0\nadd 1 2 3\nthread\nhalt\npicks 1\n":    {Cells: 2, Programs: [][]api.Instr{{jump(0), instr(api.OpAdd, 1, 2, 3)}, {halt}}, Picks: []uint32{1}},
		"cells 1\nfirst 1 2 3\nthread\nthread\nabort 5\npicks 0 1 0 1\n": {Cells: 1, First: []uint64{1, 2, 3}, Programs: [][]api.Instr{nil, {abort(5)}}, Picks: []uint32{0, 1, 0, 1}},
	} {
		if text, err := Script(s); text != want || err != api.OK {
			t.Errorf("Script(%v) answers %q, %v, not %q", s, text, err, want)
		}
		readsScript(t, want, s)
	}
}

// P9.4: what Script refuses, and what it names first.
func TestScriptRefuses(t *testing.T) {
	for _, cells := range []int{-1, -4, math.MinInt} {
		for _, p := range [][][]api.Instr{nil, {{halt}}, {{{}}}} {
			s := api.Script{Cells: cells, Programs: p, Picks: []uint32{1}}
			if text, err := Script(s); text != "" || err != api.ErrArg {
				t.Errorf("Script(%v) answers %q, %v", s, text, err)
			}
		}
	}
	for _, i := range unformed() {
		for _, p := range [][][]api.Instr{{{i}}, {{i, halt}}, {{halt, i}}, {{halt}, {i}}, {{i}, {halt}}, {nil, {halt, i, halt}, nil}} {
			s := api.Script{Cells: 3, First: []uint64{1}, Programs: p, Picks: []uint32{1}}
			if text, err := Script(s); text != "" || err != api.ErrCode {
				t.Fatalf("Script(%v) answers %q, %v", s, text, err)
			}
		}
	}
}

// P9.4: each line wrong, out of its order, missing, too many; texts that end too early.
func TestParseScriptOfNone(t *testing.T) {
	for _, x := range []struct {
		text string
		line int
	}{
		{"", 0}, {"\n", 0}, {"x", 0}, {"x\n", 0}, {"cells 4", 0}, {"cells", 0}, {"cells\n", 0}, {"cells \n", 0}, {"cell 4\n", 0}, {"Cells 4\n", 0}, {"cells4\n", 0},
		{" cells 4\n", 0}, {"cells  4\n", 0}, {"cells 4 \n", 0}, {"cells\t4\n", 0}, {"cells 4 5\n", 0}, {"cells 4\r\n", 0}, {"cells 4;\n", 0}, {"cells 4 ; x\n", 0}, {"a: cells 4\n", 0},
		{"cells 04\n", 0}, {"cells 00\n", 0}, {"cells -1\n", 0}, {"cells +1\n", 0}, {"cells -0\n", 0}, {"cells x\n", 0}, {"cells 0x4\n", 0}, {"cells 1_0\n", 0}, {"cells 1e3\n", 0}, {"cells ٣\n", 0}, {"cells \xff\n", 0},
		{"cells 9223372036854775808\n", 0}, {"cells 18446744073709551615\n", 0}, {"cells 18446744073709551620\n", 0}, {"cells " + strings.Repeat("9", 1<<16) + "\n", 0},
		{"first 1\ncells 4\n", 0}, {"thread\ncells 4\n", 0}, {"picks 1\n", 0}, {"halt\n", 0}, {"\ncells 4\n", 0}, {"; x\ncells 4\n", 0},
		{"cells 4\n\n", 1}, {"cells 4\n ", 1}, {"cells 4\ncells 4\n", 1}, {"cells 4\nhalt\n", 1}, {"cells 4\nx\n", 1}, {"cells 4\n; x\n", 1}, {"cells 4\nthread", 1}, {"cells 4\nfirst 1", 1}, {"cells 4\npicks 1", 1},
		{"cells 4\nfirst\n", 1}, {"cells 4\nfirst \n", 1}, {"cells 4\nfirst  1\n", 1}, {"cells 4\nfirst 1 \n", 1}, {"cells 4\nfirst 1  2\n", 1}, {"cells 4\nfirst\t1\n", 1}, {"cells 4\nfirst 1\t2\n", 1}, {"cells 4\n first 1\n", 1}, {"cells 4\nfirst1\n", 1}, {"cells 4\nfirsts 1\n", 1},
		{"cells 4\nfirst 01\n", 1}, {"cells 4\nfirst 1 00\n", 1}, {"cells 4\nfirst -1\n", 1}, {"cells 4\nfirst +1\n", 1}, {"cells 4\nfirst a\n", 1}, {"cells 4\nfirst 18446744073709551616\n", 1}, {"cells 4\nfirst 1 99999999999999999999 1\n", 1}, {"cells 4\nfirst 1\r\n", 1},
		{"cells 4\nfirst 1\nfirst 2\n", 2}, {"cells 4\nfirst 1\nhalt\n", 2}, {"cells 4\nfirst 1\n\n", 2}, {"cells 4\nfirst 1\ncells 4\n", 2}, {"cells 4\nthread\nfirst 1\n", 2}, {"cells 4\nthread\nhalt\nfirst 1\n", 3}, {"cells 4\npicks 1\nfirst 1\n", 2},
		{"cells 4\nthread \n", 1}, {"cells 4\n thread\n", 1}, {"cells 4\nthread 1\n", 1}, {"cells 4\nthreads\n", 1}, {"cells 4\nThread\n", 1}, {"cells 4\nthread:\n", 1}, {"cells 4\nthread halt\n", 1},
		{"cells 4\nthread\n\n", 2}, {"cells 4\nthread\nhalt", 2}, {"cells 4\nthread\nhalt ; x\n", 2}, {"cells 4\nthread\n; x\n", 2}, {"cells 4\nthread\nhalt \n", 2}, {"cells 4\nthread\n halt\n", 2}, {"cells 4\nthread\na: halt\n", 2}, {"cells 4\nthread\na:\n", 2}, {"cells 4\nthread\njump a\n", 2}, {"cells 4\nthread\njump  0\n", 2}, {"cells 4\nthread\njump\t0\n", 2}, {"cells 4\nthread\njump 00\n", 2}, {"cells 4\nthread\njump 18446744073709551616\n", 2}, {"cells 4\nthread\nget 8 0\n", 2}, {"cells 4\nthread\nnop\n", 2}, {"cells 4\nthread\nhalt\r\n", 2}, {"cells 4\nthread\nhalt halt\n", 2}, {"cells 4\nthread\ncells 4\n", 2},
		{"cells 4\nthread\nhalt\nthread\nget 0\nhalt\n", 4}, {"cells 4\nthread\nhalt\nthread\nhalt\nnop\npicks 0\n", 5},
		{"cells 4\npicks\n", 1}, {"cells 4\npicks \n", 1}, {"cells 4\npicks  1\n", 1}, {"cells 4\npicks 1 \n", 1}, {"cells 4\npicks 1  2\n", 1}, {"cells 4\n picks 1\n", 1}, {"cells 4\npicks1\n", 1}, {"cells 4\npick 1\n", 1}, {"cells 4\npicks\t1\n", 1},
		{"cells 4\npicks 01\n", 1}, {"cells 4\npicks 1 00\n", 1}, {"cells 4\npicks -1\n", 1}, {"cells 4\npicks +1\n", 1}, {"cells 4\npicks a\n", 1}, {"cells 4\npicks 4294967296\n", 1}, {"cells 4\npicks 0 0 18446744073709551616\n", 1}, {"cells 4\npicks 1\r\n", 1},
		{"cells 4\npicks 1\npicks 1\n", 2}, {"cells 4\npicks 1\nthread\n", 2}, {"cells 4\npicks 1\nhalt\n", 2}, {"cells 4\npicks 1\n\n", 2}, {"cells 4\npicks 1\ncells 4\n", 2}, {"cells 4\npicks 1\nx", 2}, {"cells 4\nthread\nhalt\npicks 1\nhalt\n", 4}, {"cells 4\nthread\nhalt\npicks 1", 3}, {"cells 4\nthread\npicks\n", 2},
		{"cells x\nfirst x\nthread", 0}, {"cells 4\nfirst x\nthread x\n", 1}, {"cells 4\nthread\nnop\npicks", 2},
	} {
		refusesScript(t, x.text, x.line)
	}
}

var (
	scriptForm = regexp.MustCompile(`^cf?(ti*)*p?$`)
	listForm   = regexp.MustCompile(`^(cells|first|picks)(( [^ ]+)+)\n$`)
)

// kindOf is what a script's line is: c, f, t, i, p; x: none.
func kindOf(line string) string {
	if line == "thread\n" {
		return "t"
	}
	if m := listForm.FindStringSubmatch(line); m != nil {
		bits := map[string]int{"cells": 63, "first": 64, "picks": 32}[m[1]]
		words := strings.Split(m[2][1:], " ")
		for _, w := range words {
			if _, ok := modelNumber(w, bits); !ok || m[1] == "cells" && len(words) > 1 {
				return "x"
			}
		}
		return m[1][:1]
	}
	words := strings.Split(strings.TrimSuffix(line, "\n"), " ")
	if _, label, ok := modelInstr(words); ok && label == "" && strings.HasSuffix(line, "\n") {
		return "i"
	}
	return "x"
}

// modelScriptLine is the first line that shows that a text is no script's; -1, if none does. What has come of a script's text, line by line, is always one itself.
func modelScriptLine(text string) int {
	kinds := ""
	for n, line := range linesOf(text) {
		if n < strings.Count(text, "\n") {
			line += "\n"
		}
		kinds += kindOf(line)
		if !scriptForm.MatchString(kinds) {
			return n
		}
	}
	if kinds == "" {
		return 0
	}
	return -1
}

// scriptOrLine asks ParseScript for what the model says; and if the text is a script's, for just the script whose text it is.
func scriptOrLine(t *testing.T, text string) bool {
	t.Helper()
	if line := modelScriptLine(text); line >= 0 {
		refusesScript(t, text, line)
		return false
	}
	s, n, err := ParseScript(text)
	if modelScript(s) != text || n != strings.Count(text, "\n") || err != api.OK {
		t.Fatalf("ParseScript(%.200q) answers %v, %d, %v", text, s, n, err)
	}
	return true
}

// P9.4: all texts of up to five lines out of these, with and without a byte 10 at the end.
func TestParseScriptSmall(t *testing.T) {
	lines := []string{"cells 4\n", "first 7 0\n", "thread\n", "halt\n", "jump 3\n", "picks 0 1\n", "\n", "picks\n"}
	var rows func(text string, left int)
	rows = func(text string, left int) {
		scriptOrLine(t, text)
		scriptOrLine(t, strings.TrimSuffix(text, "\n"))
		if left == 0 {
			return
		}
		for _, l := range lines {
			rows(text+l, left-1)
		}
	}
	rows("", 5)
}

// script draws a script.
func (d *drawn) script() api.Script {
	s := api.Script{Cells: int(d.word() >> 1)}
	for range d.below(4) {
		s.First = append(s.First, d.word())
	}
	for range d.below(4) {
		s.Programs = append(s.Programs, d.program(4))
	}
	for range d.below(6) {
		s.Picks = append(s.Picks, uint32(d.word()))
	}
	return s
}

// P9.4, P9.5: ParseScript of Script is the script; of its text changed at a few bytes, what the model says.
func TestParseScriptChanged(t *testing.T) {
	d := drawn(5)
	signs := []string{" ", "\t", "\n", "0", "9", "x", ";", "a:", "\r", "thread\n", "halt\n", "picks 1\n", "first 1\n", ""}
	refused := 0
	for range 20000 {
		s := d.script()
		thereAndBack(t, s)
		text := modelScript(s)
		for range d.below(3) {
			at := d.below(len(text) + 1)
			text = text[:at] + d.of(signs...) + text[min(len(text), at+d.below(2)):]
		}
		if !scriptOrLine(t, text) {
			refused++
		}
	}
	if refused < 2000 || refused > 18000 {
		t.Errorf("%d of 20000 are refused: too few of one kind", refused)
	}
}

// P9.4: a script at and past its limits is written and read all the same: whether it may be is not asked.
func TestScriptLong(t *testing.T) {
	thereAndBack(t, api.Script{Cells: 1, First: make([]uint64, api.MaxCells+1), Programs: [][]api.Instr{slices.Repeat([]api.Instr{halt}, api.MaxCode+1)}, Picks: make([]uint32, api.MaxPicks+1)})
}

// Answers are new memory, spare room included, within one answer too.
func TestScriptMemory(t *testing.T) {
	text := "cells 4\nfirst 1 2 3\nthread\nhalt\nthread\njump 1\nhalt\npicks 0 1 0\n"
	want := api.Script{Cells: 4, First: []uint64{1, 2, 3}, Programs: [][]api.Instr{{halt}, {jump(1), halt}}, Picks: []uint32{0, 1, 0}}
	a, _, _ := ParseScript(text)
	b, _, _ := ParseScript(text)
	spoil(a.Programs[0])
	if !slices.Equal(a.Programs[1], want.Programs[1]) {
		t.Fatalf("two programs share memory: %v", a)
	}
	spoil(a.Programs[1])
	spoil(a.First)
	spoil(a.Picks)
	spoil(a.Programs)
	if !sameScript(b, want) {
		t.Fatalf("two answers share memory: %v", b)
	}
	whole := cloneScript(want)
	part := api.Script{Cells: 4, First: whole.First[:1], Programs: whole.Programs[:1], Picks: whole.Picks[:1]}
	thereAndBack(t, part)
	if !sameScript(whole, want) {
		t.Fatalf("what stands behind was changed: %v", whole)
	}
}
