package plain

import (
	"math"

	"parley/api"
)

// deed does an instruction that may stand where the run is: what took place in it, if anything.
type deed func(r *run, i api.Instr) api.Event

// table is what each operation does, by its number.
type table [api.OpHalt + 1]deed

// deeds makes the table.
func deeds() table {
	return table{
		api.OpConst: func(r *run, i api.Instr) api.Event { return r.set(i.A, i.N) },
		api.OpMove:  func(r *run, i api.Instr) api.Event { return r.set(i.A, r.Regs[i.B]) },
		api.OpAdd:   reckon(func(b, c uint64) uint64 { return b + c }),
		api.OpSub:   reckon(func(b, c uint64) uint64 { return b - c }),
		api.OpMul:   reckon(func(b, c uint64) uint64 { return b * c }),
		api.OpLess:  reckon(func(b, c uint64) uint64 { return truth(b < c) }),
		api.OpEqual: reckon(func(b, c uint64) uint64 { return truth(b == c) }),
		api.OpJump:  func(r *run, i api.Instr) api.Event { return r.leap(i.N) },
		api.OpZero:  (*run).zero,
		api.OpLoad:  (*run).plainLoad,
		api.OpStore: (*run).plainStore,
		api.OpBegin: (*run).block,
		api.OpGet:   (*run).get,
		api.OpPut:   (*run).put,
		api.OpEnd:   (*run).end,
		api.OpAbort: (*run).abort,
		api.OpHalt:  func(*run, api.Instr) api.Event { return api.Event{Kind: api.Halted} },
	}
}

// reckon is the deed that makes a register of two others.
func reckon(f func(b, c uint64) uint64) deed {
	return func(r *run, i api.Instr) api.Event { return r.set(i.A, f(r.Regs[i.B], r.Regs[i.C])) }
}

// set ends an instruction by a word for a register.
func (r *run) set(reg int, word uint64) api.Event {
	r.Regs[reg] = word
	r.At++
	return api.Event{}
}

// leap goes on at a number: one that no int has, as far as can be.
func (r *run) leap(n uint64) api.Event {
	r.At = int(min(n, math.MaxInt))
	return api.Event{}
}

func (r *run) zero(i api.Instr) api.Event {
	if r.Regs[i.A] == 0 {
		return r.leap(i.N)
	}
	r.At++
	return api.Event{}
}

func (r *run) plainLoad(i api.Instr) api.Event {
	addr := r.Regs[i.B]
	word, err := r.load(addr)
	if err != api.OK {
		return failed(err)
	}
	r.set(i.A, word)
	return api.Event{Kind: api.Loaded, Addr: addr, Word: word}
}

// plainStore asks for the cell alone: the store itself is done by who hears of it.
func (r *run) plainStore(i api.Instr) api.Event {
	addr := r.Regs[i.B]
	if _, err := r.load(addr); err != api.OK {
		return failed(err)
	}
	r.At++
	return api.Event{Kind: api.Stored, Addr: addr, Word: r.Regs[i.A]}
}

func (r *run) get(i api.Instr) api.Event {
	addr := r.Regs[i.B]
	e := api.Event{Kind: api.Read, Addr: addr}
	if at, own := r.kept[addr]; own {
		e.Word, e.Own = r.Writes[at].Word, true
	} else {
		word, err := r.load(addr)
		if err != api.OK {
			return failed(err)
		}
		if r.seen == api.MaxReads {
			return failed(api.ErrFull)
		}
		r.seen++
		e.Word = word
	}
	r.Reads = append(r.Reads, api.Entry{Addr: addr, Word: e.Word, Own: e.Own})
	r.set(i.A, e.Word)
	return e
}

func (r *run) put(i api.Instr) api.Event {
	c := api.Cell{Addr: r.Regs[i.B], Word: r.Regs[i.A]}
	if at, own := r.kept[c.Addr]; own {
		r.Writes[at] = c
	} else if err := r.keep(c); err != api.OK {
		return failed(err)
	}
	r.At++
	return api.Event{Kind: api.Write, Addr: c.Addr, Word: c.Word}
}

// keep puts an address that is not in the redo log behind it.
func (r *run) keep(c api.Cell) api.Errno {
	if _, err := r.load(c.Addr); err != api.OK {
		return err
	}
	if len(r.Writes) == api.MaxWrites {
		return api.ErrFull
	}
	if r.kept == nil {
		r.kept = map[uint64]int{}
	}
	r.kept[c.Addr] = len(r.Writes)
	r.Writes = append(r.Writes, c)
	return api.OK
}

// end commits: what wrote is one more of those that did.
func (r *run) end(api.Instr) api.Event {
	number := r.commits
	if len(r.Writes) > 0 {
		number++
	}
	r.At++
	return api.Event{Kind: api.Committed, Word: number}
}

func (r *run) abort(i api.Instr) api.Event {
	r.leap(i.N)
	return api.Event{Kind: api.Aborted}
}

// truth is a truth as a word.
func truth(yes bool) uint64 {
	if yes {
		return 1
	}
	return 0
}
