package plain

import (
	"parley/api"
	"parley/code"
)

// run is a step as it goes: a whole block, or one instruction outside.
type run struct {
	api.Stroke
	program []api.Instr
	deeds   *table
	load    func(addr uint64) (uint64, api.Errno)
	tell    func(api.Event) // is told what takes place, in order
	commits uint64          // how many blocks that wrote have committed ahead of this step
	kept    map[uint64]int  // where in Writes an address stands
	seen    int             // how many of Reads are of cells: these alone stand in the read log
}

// outside does the step of a thread outside, and answers the last thing that took place in it. (It is misplaced nowhere there: scripts are checked ahead of their runs.)
func (r *run) outside() api.Event {
	e := r.do()
	if e.Kind != 0 {
		r.tell(e)
	}
	return e
}

// inside does an instruction of a block. One that is misplaced is so ahead of one that is too many.
func (r *run) inside() api.Event {
	if r.misplaced() {
		return failed(api.ErrPlace)
	}
	if r.Fuel == api.MaxFuel {
		return failed(api.ErrFuel)
	}
	r.Fuel++
	return r.do()
}

// block does a whole block, from its begin on, and answers how it ended.
func (r *run) block(api.Instr) api.Event {
	begin, ahead := r.At, r.Regs
	r.tell(api.Event{Kind: api.Begin, Word: 2 * r.commits})
	r.At++
	var last api.Event
instructions:
	for {
		last = r.inside()
		switch last.Kind {
		case api.Read, api.Write:
			r.tell(last)
		case api.Committed, api.Aborted, api.Failed:
			break instructions
		}
	}
	r.Kind, r.Err = last.Kind, last.Err
	switch last.Kind {
	case api.Failed:
		r.At = begin
		fallthrough
	case api.Aborted:
		r.Regs = ahead
	}
	return last
}

// misplaced tells whether no instruction that may stand inside is next.
func (r *run) misplaced() bool {
	if r.At >= len(r.program) {
		return true
	}
	form, _ := code.Info(r.program[r.At].Op)
	return !form.Inside
}

// do does the next instruction: what took place in it, if anything.
func (r *run) do() api.Event {
	i := r.program[r.At]
	return r.deeds[i.Op](r, i)
}

// failed is the event of an error.
func failed(err api.Errno) api.Event { return api.Event{Kind: api.Failed, Err: err} }

// formed tells whether a program is formed, as layer 11 has it.
func formed(p []api.Instr) bool {
	if len(p) < 1 || len(p) > api.MaxCode {
		return false
	}
	for _, i := range p {
		if !code.Formed(i) {
			return false
		}
	}
	return true
}

// over loads words as cells. It is no row: of words there may be none, and more than a row may have.
func over(words []uint64) func(uint64) (uint64, api.Errno) {
	return func(addr uint64) (uint64, api.Errno) {
		if addr >= uint64(len(words)) {
			return 0, api.ErrRange
		}
		return words[addr], api.OK
	}
}
