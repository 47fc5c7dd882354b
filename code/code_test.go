package code

import (
	"fmt"
	"math"
	"strconv"
	"strings"
	"testing"

	"parley/api"
)

const top = math.MaxUint64

// drawn is a row of numbers that looks drawn, and is the same each time.
type drawn uint64

func (d *drawn) next() uint64 {
	*d = *d*6364136223846793005 + 1442695040888963407
	return uint64(*d >> 33)
}

// below is a number from 0 to n - 1.
func (d *drawn) below(n int) int { return int(d.next() % uint64(n)) }

// word is a word of any length in bits.
func (d *drawn) word() uint64 { return (d.next()<<33 ^ d.next()) >> d.below(64) }

// instr is a formed instruction.
func (d *drawn) instr() api.Instr {
	row := table[d.below(len(table))]
	i := api.Instr{Op: row.op}
	for at, own := range []*int{&i.A, &i.B, &i.C} {
		if at < row.form.Regs {
			*own = d.below(api.Regs)
		}
	}
	if row.form.Num {
		i.N = d.word()
	}
	return i
}

// program is a list of up to most formed instructions.
func (d *drawn) program(most int) []api.Instr {
	var p []api.Instr
	for range d.below(most + 1) {
		p = append(p, d.instr())
	}
	return p
}

// table is the chapter's table, a row for each operation.
var table = []struct {
	op   api.Op
	name string
	form api.Form
}{
	{1, "const", api.Form{Regs: 1, Num: true, Outside: true, Inside: true}},
	{2, "move", api.Form{Regs: 2, Outside: true, Inside: true}},
	{3, "add", api.Form{Regs: 3, Outside: true, Inside: true}},
	{4, "sub", api.Form{Regs: 3, Outside: true, Inside: true}},
	{5, "mul", api.Form{Regs: 3, Outside: true, Inside: true}},
	{6, "less", api.Form{Regs: 3, Outside: true, Inside: true}},
	{7, "equal", api.Form{Regs: 3, Outside: true, Inside: true}},
	{8, "jump", api.Form{Num: true, Target: true, Outside: true, Inside: true}},
	{9, "zero", api.Form{Regs: 1, Num: true, Target: true, Outside: true, Inside: true}},
	{10, "load", api.Form{Regs: 2, Outside: true}},
	{11, "store", api.Form{Regs: 2, Outside: true}},
	{12, "begin", api.Form{Outside: true}},
	{13, "get", api.Form{Regs: 2, Inside: true}},
	{14, "put", api.Form{Regs: 2, Inside: true}},
	{15, "end", api.Form{Inside: true}},
	{16, "abort", api.Form{Num: true, Target: true, Inside: true}},
	{17, "halt", api.Form{Outside: true}},
}

// edges are numbers at which the numbers of bytes, digits and bits change.
var edges = []uint64{
	0, 1, 7, 8, 9, 10, 99, 100, 127, 128, 129, 255, 256, 300, 16383, 16384, 1<<21 - 1, 1 << 21,
	1<<32 - 1, 1 << 32, 1<<56 - 1, 1 << 56, 1<<63 - 1, 1 << 63, 1<<63 + 1, 9999999999999999999, 10000000000000000000, top - 1, top,
}

// formed are instructions of all operations, with all registers and, where there is a number, all edges.
func formed() []api.Instr {
	var l []api.Instr
	for _, row := range table {
		here := []api.Instr{{Op: row.op}}
		for at := range row.form.Regs {
			here = spread(here, api.Regs, func(i *api.Instr, n int) { *[]*int{&i.A, &i.B, &i.C}[at] = n })
		}
		if row.form.Num {
			here = spread(here, len(edges), func(i *api.Instr, n int) { i.N = edges[n] })
		}
		l = append(l, here...)
	}
	return l
}

// spread is each instruction in count ways.
func spread(l []api.Instr, count int, set func(i *api.Instr, n int)) []api.Instr {
	var out []api.Instr
	for _, i := range l {
		for n := range count {
			set(&i, n)
			out = append(out, i)
		}
	}
	return out
}

// unformed are instructions that are not formed, one for each condition and operation.
func unformed() []api.Instr {
	l := []api.Instr{
		{}, {Op: 18}, {Op: -1}, {Op: math.MaxInt}, {Op: math.MinInt}, {Op: 256 + 1}, {Op: 1<<32 + 1},
		{A: 1}, {N: 1}, {Op: 18, N: 1}, {Op: 18, A: 7, B: 7, C: 7, N: top},
	}
	for _, row := range table {
		for at := range 3 {
			wrong := []int{-1, 8, 9, 128, 256, 1 << 32, math.MaxInt, math.MinInt}
			if at >= row.form.Regs {
				wrong = append(wrong, 1, 7)
			}
			for _, n := range wrong {
				i := api.Instr{Op: row.op}
				*[]*int{&i.A, &i.B, &i.C}[at] = n
				l = append(l, i)
			}
		}
		if !row.form.Num {
			l = append(l, api.Instr{Op: row.op, N: 1}, api.Instr{Op: row.op, N: 1 << 63}, api.Instr{Op: row.op, N: top})
		}
	}
	return l
}

// textOf is a formed instruction's text, as the chapter has it.
func textOf(i api.Instr) string {
	row := table[i.Op-1]
	parts := []string{row.name}
	for _, r := range []int{i.A, i.B, i.C}[:row.form.Regs] {
		parts = append(parts, fmt.Sprint(r))
	}
	if row.form.Num {
		parts = append(parts, fmt.Sprint(i.N))
	}
	return strings.Join(parts, " ")
}

// P8.1
func TestInfo(t *testing.T) {
	if len(table) != int(api.OpHalt) {
		t.Fatalf("there are %d rows, not %d", len(table), api.OpHalt)
	}
	for _, row := range table {
		if f, ok := Info(row.op); f != row.form || !ok {
			t.Errorf("Info(%s) answers %+v, %v, not %+v", row.name, f, ok, row.form)
		}
	}
	for _, op := range noOps {
		if f, ok := Info(op); f != (api.Form{}) || ok {
			t.Errorf("Info(%d) answers %+v, %v", op, f, ok)
		}
	}
}

// noOps are numbers of no operation.
var noOps = []api.Op{0, 18, 19, -1, -17, 255, 256, 257, 1<<32 + 1, math.MaxInt, math.MinInt}

// P8.1
func TestName(t *testing.T) {
	for _, row := range table {
		if got := Name(row.op); got != row.name {
			t.Errorf("Name(%d) answers %q, not %q", row.op, got, row.name)
		}
	}
	for _, op := range noOps {
		if got := Name(op); got != "" {
			t.Errorf("Name(%d) answers %q", op, got)
		}
	}
}

// P8.1
func TestNamed(t *testing.T) {
	for _, row := range table {
		if op, ok := Named(row.name); op != row.op || !ok {
			t.Errorf("Named(%q) answers %d, %v, not %d", row.name, op, ok, row.op)
		}
		for _, wrong := range []string{
			strings.ToUpper(row.name), strings.ToUpper(row.name[:1]) + row.name[1:], " " + row.name, row.name + " ",
			row.name + "\n", row.name + "\x00", row.name[1:], row.name[:len(row.name)-1], row.name + row.name,
		} {
			if op, ok := Named(wrong); op != 0 || ok {
				t.Errorf("Named(%q) answers %d, %v", wrong, op, ok)
			}
		}
	}
	for _, wrong := range []string{"", " ", "\x00", "1", "nop", "Jump", "\xff", "énd", strings.Repeat("end", 1<<16)} {
		if op, ok := Named(wrong); op != 0 || ok {
			t.Errorf("Named(%.20q) answers %d, %v", wrong, op, ok)
		}
	}
}

// P8.2
func TestFormed(t *testing.T) {
	for _, i := range formed() {
		if !Formed(i) {
			t.Fatalf("%+v is not formed", i)
		}
	}
	for _, i := range unformed() {
		if Formed(i) {
			t.Errorf("%+v is formed", i)
		}
	}
}

// P8.2: of all small instructions the formed ones are just those that the table has.
func TestFormedSmall(t *testing.T) {
	want := map[api.Instr]bool{}
	for _, i := range formed() {
		if i.A <= 1 && i.B <= 1 && i.C <= 1 && i.N <= 1 {
			want[i] = true
		}
	}
	for op := api.Op(-1); op <= 19; op++ {
		for bits := range 81 {
			small := func(digit int) int { return bits/digit%3 - 1 }
			i := api.Instr{Op: op, A: small(1), B: small(3), C: small(9), N: uint64(bits / 27 % 2)}
			if Formed(i) != want[i] {
				t.Fatalf("Formed(%+v) is %v", i, Formed(i))
			}
		}
	}
}

// P8.2, P8.5: Parse of Text is the instruction.
func TestTextAndParse(t *testing.T) {
	for _, i := range formed() {
		text, err := Text(i)
		if want := textOf(i); text != want || err != api.OK {
			t.Fatalf("Text(%+v) answers %q, %v, not %q", i, text, err, want)
		}
		if got, err := Parse(text); got != i || err != api.OK {
			t.Fatalf("Parse(%q) answers %+v, %v, not %+v", text, got, err, i)
		}
	}
	for _, i := range unformed() {
		if text, err := Text(i); text != "" || err != api.ErrCode {
			t.Errorf("Text(%+v) answers %q, %v", i, text, err)
		}
	}
}

// P8.2: lines that are no text.
func TestParseOfNone(t *testing.T) {
	for what, lines := range map[string][]string{
		"an empty line":                    {"", " ", "  "},
		"no operation":                     {"nop", "End", "halts", "ends 1", "1", "1 2 3", "\x00", "\xff", "const\x00", "нalt"},
		"a blank ahead":                    {" end", " const 0 1", " add 1 2 3"},
		"a blank behind":                   {"end ", "halt  ", "const 0 1 ", "add 1 2 3 ", "jump 4 "},
		"two blanks":                       {"const  0 1", "const 0  1", "add 1 2  3", "jump  4", "add  1 2 3"},
		"another blank":                    {"const\t0 1", "const 0\t1", "const 0\n1", "end\n", "end\r", "jump\u00a04", "const 0\u20031"},
		"no blank":                         {"const01", "const 01", "jump4", "add 123", "add1 2 3"},
		"a 0 ahead":                        {"const 0 01", "const 00 1", "const 0 00", "jump 007", "add 1 2 03", "add 01 2 3", "zero 7 00", "abort 0000"},
		"a number too great":               {"const 0 18446744073709551616", "jump 18446744073709551617", "abort 18446744073709551620", "jump 18446744073709551625", "zero 0 20000000000000000000", "const 1 99999999999999999999", "const 0 36893488147419103232", "jump 184467440737095516160", "abort 100000000000000000000000000000000000000000", "jump " + strings.Repeat("9", 1<<16)},
		"a sign":                           {"const 0 +1", "const 0 -1", "const +0 1", "const -0 1", "jump -0", "jump +4", "add 1 -2 3"},
		"no register":                      {"const 8 1", "get 8 0", "get 0 8", "add 8 0 0", "add 0 8 0", "add 0 0 8", "move 0 9", "zero 10 1", "put 18446744073709551615 0", "store 4294967296 0", "load 0 256", "load 0 18446744073709551616"},
		"a part too few":                   {"const", "const 0", "move", "move 1", "add", "add 1", "add 1 2", "jump", "zero", "zero 7", "load 0", "store 0", "get 0", "put 0", "abort"},
		"a part too many":                  {"const 0 1 2", "move 1 2 3", "add 1 2 3 4", "jump 1 2", "zero 7 0 0", "load 0 1 2", "begin 0", "get 0 1 2", "put 0 1 2", "end 0", "abort 1 1", "halt 0", "add 1 2 3 4 5", "end end", "halt 0 0 0 0 0", "add" + strings.Repeat(" 1", 1<<16)},
		"an empty part":                    {"const 0 ", "const  ", "const ", "jump ", "add   ", "add 1 2 ", "begin "},
		"other digits":                     {"const 0 0x1", "const 0 1_000", "const 0 1e3", "const 0 1.0", "jump 1a", "jump a", "jump a1", "jump /", "jump :", "const a 1", "jump ٣", "jump 1٣", "jump \xff", "jump 1\xff", "const 0 1;", "const 0, 1"},
		"a text with something behind it":  {"end;", "end\x00", "jump 4\n", "jump 4\x00", "add 1 2 3\r\n", "end\nend"},
		"a number where there is no blank": {"end0", "halt1", "begin17"},
	} {
		for _, line := range lines {
			if i, err := Parse(line); i != (api.Instr{}) || err != api.ErrCode {
				t.Errorf("%s: Parse(%.40q) answers %+v, %v", what, line, i, err)
			}
		}
	}
}

// P8.2: a text that is changed at one byte, or cut, is parsed if and only if it is the text of an instruction.
func TestParseChanged(t *testing.T) {
	d := drawn(2)
	signs := []byte(" 01789+-a\n\xff")
	for range 20000 {
		text := []byte(textOf(d.instr()))
		if !isText(string(text)) {
			t.Fatalf("%q is no text", text)
		}
		at := d.below(len(text) + 1)
		switch d.below(3) {
		case 0:
			text = append(text[:at:at], append([]byte{signs[d.below(len(signs))]}, text[at:]...)...)
		case 1:
			text = append(text[:at:at], text[min(at+1, len(text)):]...)
		case 2:
			text[min(at, len(text)-1)] = signs[d.below(len(signs))]
		}
		i, err := Parse(string(text))
		if err == api.OK && (!Formed(i) || textOf(i) != string(text)) || err != api.OK && i != (api.Instr{}) {
			t.Fatalf("Parse(%q) answers %+v, %v", text, i, err)
		}
		if err != api.OK && isText(string(text)) {
			t.Fatalf("Parse(%q) answers %v", text, err)
		}
	}
}

// isText tells whether a line is a text: whether it is what textOf makes of the numbers that the library reads in it.
func isText(line string) bool {
	words := strings.Split(line, " ")
	for _, row := range table {
		i := api.Instr{Op: row.op}
		for at, w := range words[1:] {
			n, _ := strconv.ParseUint(w, 10, 64)
			if row.form.Num && at == row.form.Regs {
				i.N = n
			} else if at < row.form.Regs {
				*[]*int{&i.A, &i.B, &i.C}[at] = int(n)
			}
		}
		if Formed(i) && textOf(i) == line {
			return true
		}
	}
	return false
}

// P8.5: which operations may stand inside and outside.
func TestWhere(t *testing.T) {
	for op := api.OpConst; op <= api.OpHalt; op++ {
		f, _ := Info(op)
		if !f.Outside && !f.Inside {
			t.Errorf("%s stands nowhere", Name(op))
		}
		if both := op >= api.OpConst && op <= api.OpZero; (f.Outside && f.Inside) != both {
			t.Errorf("%s stands outside %v, inside %v", Name(op), f.Outside, f.Inside)
		}
	}
}
