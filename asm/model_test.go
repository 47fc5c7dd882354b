package asm

import (
	"fmt"
	"math"
	"math/big"
	"regexp"
	"slices"
	"strings"
	"testing"

	"parley/api"
)

const top = math.MaxUint64

// row is an operation: its name, how many registers it has, whether a number stands behind these, whether that is a target.
type row struct {
	op          api.Op
	name        string
	regs        int
	num, target bool
}

// table is the operations by their numbers.
var table = []row{
	{1, "const", 1, true, false}, {2, "move", 2, false, false}, {3, "add", 3, false, false}, {4, "sub", 3, false, false},
	{5, "mul", 3, false, false}, {6, "less", 3, false, false}, {7, "equal", 3, false, false}, {8, "jump", 0, true, true},
	{9, "zero", 1, true, true}, {10, "load", 2, false, false}, {11, "store", 2, false, false}, {12, "begin", 0, false, false},
	{13, "get", 2, false, false}, {14, "put", 2, false, false}, {15, "end", 0, false, false}, {16, "abort", 0, true, true},
	{17, "halt", 0, false, false},
}

// instr, jump, zero, abort write instructions short.
func instr(op api.Op, regs ...int) api.Instr {
	l := append(regs, 0, 0, 0)
	return api.Instr{Op: op, A: l[0], B: l[1], C: l[2]}
}

func jump(n uint64) api.Instr        { return api.Instr{Op: api.OpJump, N: n} }
func zero(a int, n uint64) api.Instr { return api.Instr{Op: api.OpZero, A: a, N: n} }
func abort(n uint64) api.Instr       { return api.Instr{Op: api.OpAbort, N: n} }

var (
	begin = instr(api.OpBegin)
	end   = instr(api.OpEnd)
	halt  = instr(api.OpHalt)
)

// unformed are instructions that are not formed.
func unformed() []api.Instr {
	l := []api.Instr{{}, {Op: 18}, {Op: -1}, {Op: math.MaxInt}, {Op: math.MinInt}, {N: 1}, {Op: 1<<32 + 1}}
	for _, row := range table {
		for at := range 3 {
			for _, n := range []int{-1, 8, math.MaxInt, math.MinInt, 1} {
				if n == 1 && at < row.regs {
					continue
				}
				i := api.Instr{Op: row.op}
				*[]*int{&i.A, &i.B, &i.C}[at] = n
				l = append(l, i)
			}
		}
		if !row.num {
			l = append(l, api.Instr{Op: row.op, N: 1}, api.Instr{Op: row.op, N: top})
		}
	}
	return l
}

// drawn is a row of numbers that looks drawn, and is the same each time.
type drawn uint64

func (d *drawn) next() uint64 {
	*d = *d*6364136223846793005 + 1442695040888963407
	return uint64(*d >> 33)
}

// below is a number from 0 to n - 1.
func (d *drawn) below(n int) int { return int(d.next() % uint64(n)) }

// word is a word of any length in bits.
func (d *drawn) word() uint64 { return (d.next()<<33 ^ d.next()) >> d.below(64) }

// of is one of a list.
func (d *drawn) of(l ...string) string { return l[d.below(len(l))] }

// program is a list of up to most formed instructions, most of whose targets are places of it.
func (d *drawn) program(most int) []api.Instr {
	p := make([]api.Instr, d.below(most+1))
	for at := range p {
		row := table[d.below(len(table))]
		p[at].Op = row.op
		for n, own := range []*int{&p[at].A, &p[at].B, &p[at].C} {
			if n < row.regs {
				*own = d.below(api.Regs)
			}
		}
		if row.num {
			p[at].N = d.word()
		}
		if row.target && d.below(8) > 0 {
			p[at].N = uint64(d.below(len(p) + 2))
		}
	}
	return p
}

// parts are the parts of a formed instruction's text.
func parts(i api.Instr) []string {
	row := table[i.Op-1]
	l := []string{row.name}
	for _, r := range []int{i.A, i.B, i.C}[:row.regs] {
		l = append(l, fmt.Sprint(r))
	}
	if row.num {
		l = append(l, fmt.Sprint(i.N))
	}
	return l
}

// plain is a program's plain text, as the chapter has it.
func plain(p []api.Instr) string {
	text := ""
	for _, i := range p {
		text += strings.Join(parts(i), " ") + "\n"
	}
	return text
}

// told is what Parse and Labels tell of a text.
type told struct {
	code   []api.Instr
	labels []api.Label
	n      int
	err    api.Errno
}

var (
	lineForm   = regexp.MustCompile(`^[ \t]*((?:[a-z][a-z0-9_]*:[ \t]*)*)(?:([a-z]+(?:[ \t]+[a-z0-9_]+)*)[ \t]*)?(?:;.*)?$`)
	labelForm  = regexp.MustCompile(`^[a-z][a-z0-9_]{0,63}$`)
	numberForm = regexp.MustCompile(`^(0|[1-9][0-9]*)$`)
	blankForm  = regexp.MustCompile(`[ \t]+`)
)

// modelLabel tells whether a name is a label.
func modelLabel(name string) bool {
	for _, row := range table {
		if row.name == name {
			return false
		}
	}
	return labelForm.MatchString(name)
}

// modelNumber reads a number of at most so many bits.
func modelNumber(text string, bits int) (uint64, bool) {
	if !numberForm.MatchString(text) {
		return 0, false
	}
	n, _ := new(big.Int).SetString(text, 10)
	return n.Uint64(), n.BitLen() <= bits
}

// modelInstr reads an instruction's parts; a label in the place of its target is told by its name.
func modelInstr(words []string) (i api.Instr, label string, ok bool) {
	at := slices.IndexFunc(table, func(r row) bool { return r.name == words[0] })
	if at < 0 {
		return i, "", false
	}
	row := table[at]
	i.Op = row.op
	words = words[1:]
	for _, own := range []*int{&i.A, &i.B, &i.C}[:row.regs] {
		if len(words) == 0 || !slices.Contains([]string{"0", "1", "2", "3", "4", "5", "6", "7"}, words[0]) {
			return i, "", false
		}
		*own = int(words[0][0] - '0')
		words = words[1:]
	}
	if !row.num {
		return i, "", len(words) == 0
	}
	if len(words) != 1 {
		return i, "", false
	}
	if row.target && modelLabel(words[0]) {
		return i, words[0], true
	}
	i.N, ok = modelNumber(words[0], 64)
	return i, "", ok
}

// linesOf are a text's lines, without the bytes 10 that end them.
func linesOf(text string) []string {
	l := strings.Split(text, "\n")
	if l[len(l)-1] == "" {
		l = l[:len(l)-1]
	}
	return l
}

// modelParse reads a program's text by the forms of its lines.
func modelParse(text string) told {
	var r told
	r.n = len(linesOf(text))
	wanted := map[int]string{} // by places: the labels that stand there in the place of a target
	lineOf := map[int]int{}
	for n, line := range linesOf(text) {
		none := told{n: n, err: api.ErrAsm}
		m := lineForm.FindStringSubmatch(line)
		if m == nil {
			return none
		}
		for _, name := range strings.Split(m[1], ":") {
			name = strings.Trim(name, " \t")
			if name == "" {
				continue
			}
			if !modelLabel(name) || slices.ContainsFunc(r.labels, func(l api.Label) bool { return l.Name == name }) {
				return none
			}
			r.labels = append(r.labels, api.Label{Name: name, Place: len(r.code)})
		}
		if m[2] == "" {
			continue
		}
		i, label, ok := modelInstr(blankForm.Split(m[2], -1))
		if !ok {
			return none
		}
		if label != "" {
			wanted[len(r.code)], lineOf[len(r.code)] = label, n
		}
		r.code = append(r.code, i)
	}
	for at := range r.code {
		if wanted[at] == "" {
			continue
		}
		found := slices.IndexFunc(r.labels, func(l api.Label) bool { return l.Name == wanted[at] })
		if found < 0 {
			return told{n: lineOf[at], err: api.ErrAsm}
		}
		r.code[at].N = uint64(r.labels[found].Place)
	}
	return r
}

// reads asks Parse and Labels for what they are to tell of a text.
func reads(t *testing.T, text string, want told) {
	t.Helper()
	p, n, err := Parse(text)
	if !slices.Equal(p, want.code) || n != want.n || err != want.err || err != api.OK && p != nil {
		t.Fatalf("Parse(%.200q) answers %v, %d, %v, not %v, %d, %v", text, p, n, err, want.code, want.n, want.err)
	}
	l, n, err := Labels(text)
	if !slices.Equal(l, want.labels) || n != want.n || err != want.err || err != api.OK && l != nil {
		t.Fatalf("Labels(%.200q) answers %v, %d, %v, not %v, %d, %v", text, l, n, err, want.labels, want.n, want.err)
	}
}

// refuses asks Parse and Labels for a refusal and its line.
func refuses(t *testing.T, what, text string, line int) {
	t.Helper()
	defer func() {
		if t.Failed() {
			t.Log(what)
		}
	}()
	reads(t, text, told{n: line, err: api.ErrAsm})
}

// spoil overwrites a list, spare room included.
func spoil[T any](l []T) {
	clear(l[:cap(l)])
}
