package asm

import (
	"strconv"
	"strings"

	"parley/api"
	"parley/code"
)

// The words with which a script's lines begin; none of them is an operation's name.
const (
	cellsWord  = "cells"
	firstWord  = "first"
	threadWord = "thread"
	picksWord  = "picks"
)

// due is what a script's next line may be.
type due int

const (
	dueCells  due = iota // the cells alone
	dueFirst             // first words, or what may stand behind them
	dueThread            // a program, or the picks
	dueCode              // an instruction, or what may stand behind a program
	dueNone              // nothing more
)

// scriptReading is what has been read of a script's text, and what is due.
type scriptReading struct {
	script api.Script
	due    due
}

// line reads the next line; false, if it is none that is due, or no byte 10 ends it.
func (r *scriptReading) line(text string) bool {
	line, ok := strings.CutSuffix(text, "\n")
	if !ok || r.due == dueNone {
		return false
	}
	head, tail, _ := strings.Cut(line, " ")
	switch {
	case r.due == dueCells:
		return head == cellsWord && r.cells(tail)
	case line == threadWord:
		r.script.Programs = append(r.script.Programs, nil)
		r.due = dueCode
		return true
	case head == firstWord && r.due == dueFirst:
		r.due = dueThread
		r.script.First, ok = numbers[uint64](tail, 64)
		return ok
	case head == picksWord:
		r.due = dueNone
		r.script.Picks, ok = numbers[uint32](tail, 32)
		return ok
	}
	return r.due == dueCode && r.instruction(line)
}

// cells reads how many cells there are: as many as an int has room for.
func (r *scriptReading) cells(text string) bool {
	n, ok := number(text, strconv.IntSize-1)
	r.script.Cells = int(n)
	r.due = dueFirst
	return ok
}

// instruction puts an instruction behind the last program.
func (r *scriptReading) instruction(line string) bool {
	i, err := code.Parse(line)
	last := len(r.script.Programs) - 1
	r.script.Programs[last] = append(r.script.Programs[last], i)
	return err == api.OK
}

// numbers reads numbers with one blank between two of them, at least one; false, if one of them is none.
func numbers[T uint32 | uint64](text string, bits int) ([]T, bool) {
	var l []T
	for more := true; more; {
		var word string
		word, text, more = strings.Cut(text, " ")
		n, ok := number(word, bits)
		if !ok {
			return nil, false
		}
		l = append(l, T(n))
	}
	return l, true
}

// number reads a number of at most so many bits, in decimal digits without a 0 ahead of others.
func number(text string, bits int) (uint64, bool) {
	n, err := strconv.ParseUint(text, 10, bits)
	return n, err == nil && strconv.FormatUint(n, 10) == text
}
