package asm

import (
	"fmt"
	"slices"
	"strings"
	"testing"

	"parley/api"
)

// writes asks Text and List for a program's texts.
func writes(t *testing.T, p []api.Instr, listed string) {
	t.Helper()
	kept := slices.Clone(p)
	if text, err := Text(p); text != plain(p) || err != api.OK {
		t.Fatalf("Text(%v) answers %q, %v, not %q", p, text, err, plain(p))
	}
	if text, err := List(p); text != listed || err != api.OK {
		t.Fatalf("List(%v) answers %q, %v, not %q", p, text, err, listed)
	}
	if !slices.Equal(p, kept) {
		t.Fatalf("%v was changed, and is %v", kept, p)
	}
}

// modelList lists a program by its lines, whatever hangs on a place being looked for anew at each.
func modelList(p []api.Instr) string {
	target := func(i api.Instr) (uint64, bool) {
		return i.N, table[i.Op-1].target && i.N <= uint64(len(p))
	}
	text := ""
	for at := 0; at <= len(p); at++ {
		if slices.ContainsFunc(p, func(i api.Instr) bool { n, ok := target(i); return ok && n == uint64(at) }) {
			text += fmt.Sprintf("p%d:", at)
			if at < len(p) {
				text += " "
			} else {
				text += "\n"
			}
		}
		if at < len(p) {
			words := parts(p[at])
			if n, ok := target(p[at]); ok {
				words[len(words)-1] = fmt.Sprintf("p%d", n)
			}
			text += strings.Join(words, " ") + "\n"
		}
	}
	return text
}

// P9.3: none, one and several instructions.
func TestText(t *testing.T) {
	writes(t, nil, "")
	writes(t, []api.Instr{}, "")
	writes(t, []api.Instr{halt}, "halt\n")
	writes(t, []api.Instr{begin, end, halt, halt}, "begin\nend\nhalt\nhalt\n")
	var all []api.Instr
	want := ""
	for _, row := range table {
		i := api.Instr{Op: row.op}
		for at, own := range []*int{&i.A, &i.B, &i.C}[:row.regs] {
			*own = 7 - at
		}
		if row.num {
			i.N = top
		}
		all = append(all, i)
		want += strings.Join(parts(i), " ") + "\n"
		writes(t, []api.Instr{i}, strings.Join(parts(i), " ")+"\n")
	}
	writes(t, all, want)
}

// P9.3: targets at each place, past the end, and several with the same one.
func TestList(t *testing.T) {
	for n, want := range map[uint64]string{
		0:       "p0: begin\nzero 5 p0\nhalt\n",
		1:       "begin\np1: zero 5 p1\nhalt\n",
		2:       "begin\nzero 5 p2\np2: halt\n",
		3:       "begin\nzero 5 p3\nhalt\np3:\n",
		4:       "begin\nzero 5 4\nhalt\n",
		1 << 32: "begin\nzero 5 4294967296\nhalt\n",
		1 << 63: "begin\nzero 5 9223372036854775808\nhalt\n",
		top:     "begin\nzero 5 18446744073709551615\nhalt\n",
	} {
		writes(t, []api.Instr{begin, zero(5, n), halt}, want)
	}
	writes(t, []api.Instr{jump(0)}, "p0: jump p0\n")
	writes(t, []api.Instr{jump(1)}, "jump p1\np1:\n")
	writes(t, []api.Instr{jump(2)}, "jump 2\n")
	writes(t, []api.Instr{jump(2), abort(2), zero(0, 2), jump(2)}, "jump p2\nabort p2\np2: zero 0 p2\njump p2\n")
	writes(t, []api.Instr{jump(3), abort(3), zero(2, 3)}, "jump p3\nabort p3\nzero 2 p3\np3:\n")
	writes(t, []api.Instr{{Op: api.OpConst, A: 1, N: 0}, {Op: api.OpConst, A: 1, N: 2}, halt}, "const 1 0\nconst 1 2\nhalt\n")
	writes(t, []api.Instr{jump(1), jump(0), abort(4), jump(5)}, "p0: jump p1\np1: jump p0\nabort p4\njump 5\np4:\n")
	long := slices.Repeat([]api.Instr{halt}, 11)
	long[0] = jump(10)
	long[1] = jump(11)
	writes(t, long, "jump p10\njump p11\n"+strings.Repeat("halt\n", 8)+"p10: halt\np11:\n")
}

// P9.3: one that is not formed, wherever it stands.
func TestTextRefuses(t *testing.T) {
	for _, i := range unformed() {
		for _, p := range [][]api.Instr{{i}, {i, halt}, {halt, i}, {halt, i, halt}, {jump(0), jump(1), i, jump(9)}, {i, i}} {
			if text, err := Text(p); text != "" || err != api.ErrCode {
				t.Fatalf("Text(%v) answers %q, %v", p, text, err)
			}
			if text, err := List(p); text != "" || err != api.ErrCode {
				t.Fatalf("List(%v) answers %q, %v", p, text, err)
			}
		}
	}
}

// P9.3, P9.5: Parse of Text, and of List, is the program.
func TestTextAndParse(t *testing.T) {
	d := drawn(3)
	for range 4000 {
		p := d.program(14)
		listed := modelList(p)
		writes(t, p, listed)
		reads(t, plain(p), told{code: p, n: len(p)})
		reads(t, listed, modelParse(listed))
		got, n, err := Parse(listed)
		if !slices.Equal(got, p) || n != strings.Count(listed, "\n") || err != api.OK {
			t.Fatalf("Parse(%q) answers %v, %d, %v, not %v", listed, got, n, err, p)
		}
	}
}

// P9.5: Text of what Parse tells is plain, and parsed again the same.
func TestTextOfParse(t *testing.T) {
	d := drawn(4)
	for range 2000 {
		text, _ := d.labelled(d.program(8))
		p, _, err := Parse(text)
		if err != api.OK {
			t.Fatalf("Parse(%q) answers %v", text, err)
		}
		again, err := Text(p)
		if again != plain(p) || err != api.OK {
			t.Fatalf("Text(%v) answers %q, %v", p, again, err)
		}
		reads(t, again, told{code: p, n: len(p)})
	}
}

// What stands behind a list that is handed in is neither looked at nor changed.
func TestTextMemory(t *testing.T) {
	whole := []api.Instr{jump(1), halt, jump(0), {Op: 99}}
	kept := slices.Clone(whole)
	writes(t, whole[:2], "jump p1\np1: halt\n")
	if !slices.Equal(whole, kept) {
		t.Fatalf("what stands behind was changed: %v", whole)
	}
}
