package asm

import (
	"iter"
	"strings"

	"parley/api"
	"parley/code"
)

const (
	blanks   = " \t"
	maxLabel = 64
)

// use is a label in the place of a target: of which instruction, and on which line.
type use struct {
	name     string
	at, line int
}

// reading is what has been read of a program's text.
type reading struct {
	code   []api.Instr
	labels []api.Label
	places map[string]int
	uses   []use
}

// lines tells a text's lines, each with the byte 10 that ends it: the last one may have none.
func lines(text string) iter.Seq[string] {
	return func(yield func(string) bool) {
		for rest := text; rest != ""; {
			end := strings.IndexByte(rest, '\n') + 1
			if end == 0 {
				end = len(rest)
			}
			if !yield(rest[:end]) {
				return
			}
			rest = rest[end:]
		}
	}
}

// read reads a program's text, and tells how many lines it has, or at which one it shows that it is none.
func read(text string) (reading, int, api.Errno) {
	r := reading{places: map[string]int{}}
	n := 0
	for line := range lines(text) {
		if !r.line(line, n) {
			return reading{}, n, api.ErrAsm
		}
		n++
	}
	// Labels may be used ahead of their lines, and a line that is none is told ahead of one that uses a label in vain.
	for _, u := range r.uses {
		place, ok := r.places[u.name]
		if !ok {
			return reading{}, u.line, api.ErrAsm
		}
		r.code[u.at].N = uint64(place)
	}
	return r, n, api.OK
}

// line reads the line of that number; false, if it is none, or has a label that stood already.
func (r *reading) line(text string, number int) bool {
	var word string
	var words []string
	rest, _, _ := strings.Cut(strings.TrimSuffix(text, "\n"), ";")

labels:
	word, rest = next(rest)
	if name, ok := strings.CutSuffix(word, ":"); ok {
		if !r.stand(name) {
			goto none
		}
		goto labels
	}

parts:
	if word != "" {
		words = append(words, word)
		word, rest = next(rest)
		goto parts
	}
	if len(words) > 0 && !r.instruction(words, number) {
		goto none
	}
	return true

none:
	return false
}

// next takes a word off a line: what stands up to the next blank, or up to the next colon with that. A colon that ends no label makes a part of an instruction so that is none.
func next(line string) (word, rest string) {
	line = strings.TrimLeft(line, blanks)
	end := strings.IndexAny(line, blanks+":")
	if end < 0 {
		return line, ""
	}
	if line[end] == ':' {
		end++
	}
	return line[:end], line[end:]
}

// stand names the place of the next instruction; false, if that is no label, or stood already.
func (r *reading) stand(name string) bool {
	if !isLabel(name) {
		return false
	}
	if _, stood := r.places[name]; stood {
		return false
	}
	r.places[name] = len(r.code)
	r.labels = append(r.labels, api.Label{Name: strings.Clone(name), Place: len(r.code)})
	return true
}

// instruction reads an instruction's parts; false, if they are none. A label in the place of a target stands for a number that is known when all lines are read: till then 0 stands there.
func (r *reading) instruction(words []string, line int) bool {
	last := len(words) - 1
	if name := words[last]; last == targetPart(words[0]) && isLabel(name) {
		r.uses = append(r.uses, use{name, len(r.code), line})
		words[last] = "0"
	}
	i, err := code.Parse(strings.Join(words, " "))
	if err != api.OK {
		return false
	}
	r.code = append(r.code, i)
	return true
}

// targetPart tells which part of an instruction, by its operation's name, is a target; -1: none.
func targetPart(name string) int {
	op, _ := code.Named(name)
	f, _ := code.Info(op)
	if !f.Target {
		return -1
	}
	return f.Regs + 1
}

// isLabel tells whether a name is a label.
func isLabel(name string) bool {
	if name == "" || len(name) > maxLabel || !isLetter(name[0]) {
		return false
	}
	for at := range len(name) {
		if c := name[at]; !isLetter(c) && (c < '0' || c > '9') && c != '_' {
			return false
		}
	}
	_, taken := code.Named(name)
	return !taken
}

func isLetter(c byte) bool { return c >= 'a' && c <= 'z' }
