package asm

import (
	"strconv"
	"strings"

	"parley/api"
	"parley/code"
)

// write writes a program's plain text.
func write(out *strings.Builder, p []api.Instr) api.Errno {
	for _, i := range p {
		line, err := code.Text(i)
		if err != api.OK {
			return err
		}
		out.WriteString(line + "\n")
	}
	return api.OK
}

// targets tells of each place of a program, the one behind its last instruction included, whether an instruction has it for its target.
func targets(p []api.Instr) []bool {
	marked := make([]bool, len(p)+1)
	for _, i := range p {
		if aims(i, len(p)) {
			marked[i.N] = true
		}
	}
	return marked
}

// aims tells whether an instruction has a target, and that among a program's places: one past them has no line on which its label could stand.
func aims(i api.Instr, size int) bool {
	f, _ := code.Info(i.Op)
	return f.Target && i.N <= uint64(size)
}

// placeName is the label of a place.
func placeName(at int) string { return "p" + strconv.Itoa(at) }

// named is an instruction's text with the label of its target: the target is its last part, and the label has the same digits.
func named(line string) string {
	at := strings.LastIndexByte(line, ' ') + 1
	return line[:at] + "p" + line[at:]
}

// writeNumbers writes a script's line of numbers, or none, if there are no numbers.
func writeNumbers[T int | uint32 | uint64](out *strings.Builder, head string, l []T) {
	if len(l) == 0 {
		return
	}
	out.WriteString(head)
	for _, n := range l {
		out.WriteString(" " + strconv.FormatUint(uint64(n), 10))
	}
	out.WriteString("\n")
}
