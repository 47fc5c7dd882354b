package asm

import (
	"fmt"
	"slices"
	"strings"
	"testing"

	"parley/api"
)

// P9.1: every operation, with its registers and its number.
func TestParseOperations(t *testing.T) {
	for _, row := range table {
		for _, n := range []uint64{0, 1, 9, 10, 18446744073709551609, top} {
			i := api.Instr{Op: row.op}
			for at, own := range []*int{&i.A, &i.B, &i.C}[:row.regs] {
				*own = 7 - at
			}
			if row.num {
				i.N = n
			}
			line := strings.Join(parts(i), " ")
			reads(t, line, told{code: []api.Instr{i}, n: 1})
			reads(t, line+"\n", told{code: []api.Instr{i}, n: 1})
			reads(t, line+"\n"+line+"\n\n"+line, told{code: []api.Instr{i, i, i}, n: 4})
			reads(t, "\t "+strings.Join(parts(i), "\t \t")+" \t;\n", told{code: []api.Instr{i}, n: 1})
		}
	}
}

// P9.1, P9.2: where labels may stand, and which places they name.
func TestParseLabels(t *testing.T) {
	longest := strings.Repeat("z", 64)
	label := func(name string, place int) api.Label { return api.Label{Name: name, Place: place} }
	for _, x := range []struct {
		text   string
		code   []api.Instr
		labels []api.Label
	}{
		{"a: halt", []api.Instr{halt}, []api.Label{label("a", 0)}},
		{"a:halt", []api.Instr{halt}, []api.Label{label("a", 0)}},
		{"a:", nil, []api.Label{label("a", 0)}},
		{"a:b: c:\td:halt", []api.Instr{halt}, []api.Label{label("a", 0), label("b", 0), label("c", 0), label("d", 0)}},
		{"b:\na:\n\nc: halt\nd:\ne:;x", []api.Instr{halt}, []api.Label{label("b", 0), label("a", 0), label("c", 0), label("d", 1), label("e", 1)}},
		{"jump a\nhalt\na:", []api.Instr{jump(2), halt}, []api.Label{label("a", 2)}},
		{"jump a\nhalt\na:\n; x\n\n", []api.Instr{jump(2), halt}, []api.Label{label("a", 2)}},
		{"a: jump a", []api.Instr{jump(0)}, []api.Label{label("a", 0)}},
		{"halt\na:\nhalt\njump a\nzero 3 a\nabort b\nb: halt", []api.Instr{halt, halt, jump(1), zero(3, 1), abort(5), halt}, []api.Label{label("a", 1), label("b", 5)}},
		{"zero 7 b\na: abort a\njump a\nb: jump b", []api.Instr{zero(7, 3), abort(1), jump(1), jump(3)}, []api.Label{label("a", 1), label("b", 3)}},
		{longest + ": jump " + longest, []api.Instr{jump(0)}, []api.Label{label(longest, 0)}},
		{"halt\na_0__9: z:jump a_0__9", []api.Instr{halt, jump(1)}, []api.Label{label("a_0__9", 1), label("z", 1)}},
		{"halts: jump end_\nend_:\nget0: getx: jump get0", []api.Instr{jump(1), jump(1)}, []api.Label{label("halts", 0), label("end_", 1), label("get0", 1), label("getx", 1)}},
		{"cells: jump thread\nthread: jump cells", []api.Instr{jump(1), jump(0)}, []api.Label{label("cells", 0), label("thread", 1)}},
		{"p1: jump p0\np0: jump 1", []api.Instr{jump(1), jump(1)}, []api.Label{label("p1", 0), label("p0", 1)}},
		{"a: jump b ; a: b:\nb: ; a: jump c", []api.Instr{jump(1)}, []api.Label{label("a", 0), label("b", 1)}},
	} {
		n := len(linesOf(x.text))
		reads(t, x.text, told{code: x.code, labels: x.labels, n: n})
		if !strings.HasSuffix(x.text, "\n") {
			reads(t, x.text+"\n", told{code: x.code, labels: x.labels, n: n})
		}
	}
}

// P9.1: how many lines there are.
func TestParseCountsLines(t *testing.T) {
	for text, n := range map[string]int{
		"": 0, "\n": 1, "\n\n": 2, " ": 1, "\t": 1, "\n ": 2, " \n": 1, " \n\t\n": 2, ";": 1, ";\n": 1, ";\n;": 2, "; x": 1,
		"\n\n\n;;; a: b; halt\n": 4, ";\x00\xff\r\n \n;": 3, "; two\r\n": 1, ";:": 1, " ; get 9": 1, strings.Repeat("\n", 1<<16): 1 << 16,
	} {
		reads(t, text, told{n: n})
	}
	for text, n := range map[string]int{"halt": 1, "halt\n": 1, "\nhalt": 2, "halt\n\n": 2, "halt\n ": 2, "halt\n;": 2} {
		reads(t, text, told{code: []api.Instr{halt}, n: n})
	}
}

// P9.1: blanks of both kinds in each place where they may stand.
func TestParseBlanks(t *testing.T) {
	want := told{code: []api.Instr{zero(2, 0)}, labels: []api.Label{{Name: "a"}, {Name: "b"}}, n: 1}
	for _, blank := range []string{"", " ", "\t", "  ", "\t\t", " \t", "\t ", strings.Repeat(" \t", 1<<10)} {
		for at := range 6 {
			gaps := []string{"", "", "", "", "", ""}
			gaps[at] = blank
			reads(t, gaps[0]+"a:"+gaps[1]+"b:"+gaps[2]+"zero 2 a"+gaps[3]+";"+gaps[4]+"x"+gaps[5], want)
			reads(t, gaps[0]+"a:"+gaps[1]+"b:"+gaps[2]+"zero 2 a"+gaps[3], want)
		}
		if blank != "" {
			reads(t, "a:b:zero"+blank+"2 a", want)
			reads(t, "a:b:zero 2"+blank+"a", want)
			reads(t, "a:b:zero"+blank+"2"+blank+"0;", want)
		}
	}
}

// wrongLines are lines that are none, by what is wrong with them.
var wrongLines = map[string][]string{
	"no operation":                    {"nop", "Halt", "HALT", "halts", "hal", "1", "0 1", "_", "\x00", "\xff", "нalt", "a", "a b", "nop 1 2", "a: nop", "p0"},
	"a part missing":                  {"const", "const 0", "move", "move 1", "add", "add 1", "add 1 2", "jump", "zero", "zero 7", "load 0", "store 0", "get", "get 0", "put 0", "abort", "a: jump", "zero a"},
	"a part too many":                 {"const 0 1 2", "move 1 2 3", "add 1 2 3 4", "jump 1 2", "zero 7 0 0", "load 0 1 2", "store 0 1 2", "begin 0", "get 0 1 2", "put 0 1 2", "end 0", "abort 1 1", "halt 0", "jump a b", "jump a 0", "jump 0 a", "zero 0 a a", "halt a", "begin" + strings.Repeat(" 0", 1<<12)},
	"two instructions":                {"halt halt", "begin end", "const 0 1 halt", "jump 0 halt", "halt jump 0", "begin\tend", "a: end b: end"},
	"a 0 ahead":                       {"const 0 01", "const 00 1", "const 0 00", "jump 007", "add 1 2 03", "add 01 2 3", "zero 7 00", "abort 0000"},
	"a number too great":              {"const 0 18446744073709551616", "jump 18446744073709551616", "zero 0 18446744073709551620", "abort 20000000000000000000", "jump 99999999999999999999", "jump 184467440737095516150", "const 0 36893488147419103232", "jump " + strings.Repeat("9", 1<<16)},
	"a sign":                          {"jump -0", "jump +1", "const 0 -1", "const -0 1", "add 1 +2 3"},
	"no register":                     {"const 8 1", "get 8 0", "get 0 8", "add 8 0 0", "add 0 8 0", "add 0 0 8", "move 0 9", "zero 10 1", "zero 8 a", "put 18446744073709551615 0", "load 0 18446744073709551616"},
	"a label where no target stands":  {"const 0 a", "const a 0", "move a 0", "move 0 a", "add 0 0 a", "add a a a", "load 0 a", "get a 1", "get 1 a", "zero a 0", "zero a a", "put 0 a"},
	"a blank ahead of a colon":        {"a :", "a : halt", "a :halt", "a\t: halt", "b: a :"},
	"a colon with no label ahead":     {":", ": halt", ":halt", "a:: halt", "a: :", "halt :", "halt:", "halt: halt", "jump 0:", "::", " :"},
	"a label behind an instruction":   {"halt a:", "jump a:", "jump a a:", "zero 0 a:", "jump a:0", "a: halt b:", "jump 0 a:", "jump a: 0"},
	"an operation's name for a label": {"add:", "add: halt", "const:", "begin: begin", "a: get: halt", "halt:halt", "jump: jump jump"},
	"an operation in a target":        {"jump halt", "zero 0 add", "abort end", "jump jump", "a: jump begin", "jump const"},
	"a label too long":                {strings.Repeat("a", 65) + ":", strings.Repeat("a", 65) + ": halt", "a: b" + strings.Repeat("0", 64) + ": halt", "jump " + strings.Repeat("a", 65), "zero 0 a" + strings.Repeat("_", 64), strings.Repeat("a", 1<<16) + ":"},
	"a sign that no label has":        {"A:", "aB:", "a-b:", "0a:", "9:", "_a:", "_:", "a.b:", "é:", "aé:", "a\xff:", "a\x00:", "a/:", "a`:", "a{:", "a@:", "a,b:", "a$: halt", "`:", "{:", "\xe1:", "jump A", "jump aB", "jump 0a", "jump _a", "jump a-b", "jump aé", "jump a\xff", "jump 1_0", "zero 0 a.b", "jump a/", "jump a@", "jump a`", "jump `", "jump {", "jump a{"},
	"a byte that is no blank":         {"halt\r", "\r", "\rhalt", "a:\r", "a:\rhalt", "jump\v0", "jump 0\f", "\u00a0halt", "halt\u2003", "\x00halt", "halt\x00", "jump\u00a00", "\v"},
	"no blank":                        {"jump0", "halt0", "const 01", "add 123", "const0 1"},
	"other signs in numbers":          {"const 0 0x1", "const 0 1_000", "const 0 1e3", "const 0 1.0", "jump 1a", "jump ٣", "const 0, 1", "jump #1", "halt # x", "halt // x", "halt, halt"},
}

// P9.1, P9.2: each kind of line that is none, as the first one, behind others and ahead of others.
func TestParseOfNone(t *testing.T) {
	for what, lines := range wrongLines {
		for _, line := range lines {
			refuses(t, what, line, 0)
			refuses(t, what, line+"\n", 0)
			refuses(t, what+", with blanks", " \t"+line+" ", 0)
			refuses(t, what+", with a remark", line+" ; x", 0)
			refuses(t, what+", behind others", "c: halt\n\n; x\njump c\n"+line, 4)
			refuses(t, what+", ahead of others", line+"\nc: halt\nhalt\n", 0)
			refuses(t, what+", twice", "halt\n"+line+"\n"+line, 1)
			for used := range strings.FieldsSeq(line) {
				if modelLabel(used) {
					refuses(t, what+", its label standing elsewhere", line+"\n"+used+": halt", 0)
				}
			}
		}
	}
}

// P9.1, P9.2: a label that stood already, and one that is used and stands nowhere.
func TestParseLabelsOfNone(t *testing.T) {
	for _, x := range []struct {
		text string
		line int
	}{
		{"a: a: halt", 0}, {"a:a:", 0}, {"a:\na:", 1}, {"a: halt\n\nb: halt\na: halt", 3}, {"a:\nb: a: halt", 1}, {"a:\nb:\nb:\na:", 2}, {"a: jump a\na: jump a", 1},
		{"jump a", 0}, {"jump nowhere", 0}, {"halt\nzero 0 a\n", 1}, {"\n\nabort a", 2}, {"a: jump b\njump c\njump b", 0}, {"a: jump a\njump c\njump b", 1}, {"halt\njump a\njump a\njump a", 1},
		{"ab: jump a\n", 0}, {"a: jump ab\n", 0}, {"jump a ; a:\n", 0}, {"; a:\njump a", 1}, {"p1: halt\njump p0", 1},
	} {
		refuses(t, "labels", x.text, x.line)
	}
}

// P9.1: which line is told where several show something.
func TestParseFirstLine(t *testing.T) {
	for _, x := range []struct {
		text string
		line int
	}{
		{"get 0\nnop", 0}, {"nop\nget 0", 0}, {"halt\nnop\nget 0", 1},
		{"jump x\nnop", 1}, {"jump x\nhalt\nhalt\nget 9 0", 3}, {"nop\njump x", 0},
		{"a: halt\na: halt\nnop", 1}, {"a: halt\nnop\na: halt", 1}, {"nop\na:\na:", 0},
		{"jump x\na:\na:", 2}, {"a:\njump x\na:", 2}, {"a:\na:\njump x", 1}, {"a: a: jump x\nnop", 0},
		{"jump x\njump y", 0}, {"jump x\njump y\nx:", 1}, {"jump x\njump y\ny:", 0}, {"jump x\njump y\nx:\nnop", 3}, {"jump x\njump y\nx:y:x:", 2},
		{"jump " + strings.Repeat("x", 65) + "\nnop", 0}, {"jump X\nnop", 0}, {"jump x\njump add", 1},
	} {
		refuses(t, "several", x.text, x.line)
	}
}

// P9.1, P9.2: all rows of up to six signs out of those at which something changes, held against the model.
func TestParseSmall(t *testing.T) {
	signs := []string{"a", "jump", "halt", "0", ":", " ", ";", "\n"}
	var rows func(text string, left int)
	rows = func(text string, left int) {
		reads(t, text, modelParse(text))
		if left == 0 {
			return
		}
		for _, s := range signs {
			rows(text+s, left-1)
		}
	}
	rows("", 6)
}

// labelled writes a program with labels in the place of most of its targets, and with blanks, remarks and empty lines in their places; and tells its labels.
func (d *drawn) labelled(p []api.Instr) (string, []api.Label) {
	gap := func() string { return d.of("", "", " ", "\t", "  ", " \t ") }
	behind := func() string {
		text := gap() + d.of("", "", ";", "; a: halt", ";\xff\r;", " ; jump")
		for d.below(4) == 0 {
			text += "\n" + gap() + d.of("", ";", ";x:")
		}
		return text + "\n"
	}
	var labels []api.Label
	standing := func(at int) string {
		text := gap()
		for n := range d.below(3) {
			name := fmt.Sprintf("%s%d_%d", d.of("p", "l", "jump", "a_"), at, n)
			labels = append(labels, api.Label{Name: name, Place: at})
			text += name + ":" + gap()
			if d.below(4) == 0 {
				text += behind() + gap()
			}
		}
		return text
	}
	heads := make([]string, len(p)+1)
	for at := range heads {
		heads[at] = standing(at)
	}
	text := ""
	for at, i := range p {
		words := parts(i)
		for _, l := range labels {
			if table[i.Op-1].target && i.N == uint64(l.Place) && d.below(3) > 0 {
				words[len(words)-1] = l.Name
			}
		}
		text += heads[at] + words[0]
		for _, w := range words[1:] {
			text += d.of(" ", "\t", " \t", "  ") + w
		}
		text += behind()
	}
	text += heads[len(p)] + behind()
	return d.of(text, strings.TrimSuffix(text, "\n")), labels
}

// P9.1, P9.2, P9.5: a label in the place of its number is that number; blanks, remarks and empty lines change nothing but the number of lines.
func TestParseLabelled(t *testing.T) {
	d := drawn(1)
	for range 4000 {
		p := d.program(8)
		text, labels := d.labelled(p)
		n := strings.Count(text, "\n")
		if text != "" && !strings.HasSuffix(text, "\n") {
			n++
		}
		reads(t, text, told{code: p, labels: labels, n: n})
	}
}

// P9.1, P9.2: texts that are changed at a few bytes, held against the model.
func TestParseChanged(t *testing.T) {
	d := drawn(2)
	signs := []string{" ", "\t", "\n", ":", ";", "a", "z", "_", "0", "7", "8", "halt", "jump", "\r", "\xff", "A"}
	refused := 0
	for range 20000 {
		text, _ := d.labelled(d.program(6))
		for range d.below(3) {
			at := d.below(len(text) + 1)
			upto := min(len(text), at+d.below(2))
			text = text[:at] + d.of(d.of(signs...), "") + text[upto:]
		}
		want := modelParse(text)
		if want.err != api.OK {
			refused++
		}
		reads(t, text, want)
	}
	if refused < 2000 || refused > 18000 {
		t.Errorf("%d of 20000 are refused: too few of one kind", refused)
	}
}

// P9.1: long texts.
func TestParseLong(t *testing.T) {
	const count = 1 << 16
	var text strings.Builder
	var want told
	for at := range count {
		name := fmt.Sprintf("l%d", at)
		fmt.Fprintf(&text, "%s: jump l%d\n", name, count-1-at)
		want.code = append(want.code, jump(uint64(count-1-at)))
		want.labels = append(want.labels, api.Label{Name: name, Place: at})
	}
	want.n = count
	reads(t, text.String(), want)
	refuses(t, "the last", text.String()+"l0:", count)
	reads(t, strings.Repeat("x", 1<<16), told{err: api.ErrAsm})
	reads(t, ";"+strings.Repeat("x", 1<<20), told{n: 1})
	reads(t, strings.Repeat("halt ", 1<<16), told{err: api.ErrAsm})
}

// Answers are new memory, spare room included.
func TestParseMemory(t *testing.T) {
	text := "a: jump b\nhalt\nb: halt\n"
	want := modelParse(text)
	p, _, _ := Parse(text)
	again, _, _ := Parse(text)
	spoil(p)
	l, _, _ := Labels(text)
	other, _, _ := Labels(text)
	spoil(l)
	if !slices.Equal(again, want.code) || !slices.Equal(other, want.labels) {
		t.Fatalf("two answers share memory: %v, %v", again, other)
	}
	reads(t, text, want)
}
