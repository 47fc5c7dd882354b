package thread

import (
	"math"

	"parley/api"
	"parley/attempt"
	"parley/code"
)

// step does one step: the event that took place in it, or none.
func (t *Thread) step() api.Event {
	switch {
	case t.status != api.Running:
		return api.Event{}
	case t.misplaced():
		return t.fail(api.ErrPlace)
	case !t.inside():
		return t.do(t.program[t.at])
	case t.attempt.Phase() != api.PhaseIdle:
		return t.take(t.attempt.Step())
	case t.fuel == api.MaxFuel:
		return t.fail(api.ErrFuel)
	}
	t.fuel++
	return t.do(t.program[t.at])
}

// misplaced tells whether no instruction that may be done here is next.
func (t *Thread) misplaced() bool {
	if t.at >= len(t.program) {
		return true
	}
	form, _ := code.Info(t.program[t.at].Op)
	if t.inside() {
		return !form.Inside
	}
	return !form.Outside
}

// do does an instruction that may stand here, or its first step.
func (t *Thread) do(i api.Instr) api.Event {
	b, c := t.regs[i.B], t.regs[i.C]
	switch i.Op {
	case api.OpConst:
		t.set(i.A, i.N)
	case api.OpMove:
		t.set(i.A, b)
	case api.OpSub:
		c = -c
		fallthrough
	case api.OpAdd:
		t.set(i.A, b+c)
	case api.OpMul:
		t.set(i.A, b*c)
	case api.OpEqual:
		// Words are the same, where what they differ by is below 1.
		b, c = b^c, 1
		fallthrough
	case api.OpLess:
		t.set(i.A, truth(b < c))
	case api.OpZero:
		if t.regs[i.A] != 0 {
			t.at++
			break
		}
		fallthrough
	case api.OpJump:
		t.at = place(i.N)
	case api.OpAbort:
		t.giveUp()
		t.at = place(i.N)
		return api.Event{Kind: api.Aborted}
	case api.OpHalt:
		t.status = api.Ended
		return api.Event{Kind: api.Halted}
	default:
		return t.share(i)
	}
	return api.Event{}
}

// share does an instruction that has to do with what is shared.
func (t *Thread) share(i api.Instr) api.Event {
	a, b := t.regs[i.A], t.regs[i.B]
	switch i.Op {
	case api.OpLoad:
		word, err := t.row.Load(b)
		return t.plain(i.A, api.Event{Kind: api.Loaded, Addr: b, Word: word, Err: err})
	case api.OpStore:
		err := t.row.Store(b, a)
		return t.plain(i.A, api.Event{Kind: api.Stored, Addr: b, Word: a, Err: err})
	case api.OpGet:
		return t.take(t.attempt.Get(b))
	case api.OpPut:
		return t.take(t.attempt.Put(b, a))
	case api.OpEnd:
		return t.take(t.attempt.End())
	}
	begun, turn, err := attempt.Begin(t.row, t.clock)
	t.attempt = begun
	return t.take(turn, err)
}

// plain ends a plain access. Of a store the register has the word already.
func (t *Thread) plain(reg int, e api.Event) api.Event {
	if e.Err != api.OK {
		return t.fail(e.Err)
	}
	t.set(reg, e.Word)
	return e
}

// take takes what a call of the attempt has answered.
func (t *Thread) take(turn api.Turn, err api.Errno) api.Event {
	if err != api.OK {
		return t.fail(err)
	}
	switch turn.Out {
	case api.OutBegun:
		t.start, t.saved = t.at, t.regs
		t.at++
	case api.OutGot:
		t.regs[t.program[t.at].A] = turn.Word
		fallthrough
	case api.OutKept:
		t.at++
	case api.OutCommitted:
		t.block = block{}
		t.at++
	case api.OutStale:
		t.giveUp()
	}
	return turn.Event
}

// set ends an instruction by a word for a register.
func (t *Thread) set(reg int, word uint64) {
	t.regs[reg] = word
	t.at++
}

// giveUp leaves a block as if it had not begun.
func (t *Thread) giveUp() {
	t.at, t.regs = t.start, t.saved
	t.block = block{}
}

// fail breaks the thread; a block that it is in is given up.
func (t *Thread) fail(err api.Errno) api.Event {
	if t.inside() {
		t.giveUp()
	}
	t.status, t.err = api.Broken, err
	return api.Event{Kind: api.Failed, Err: err}
}

// truth is a truth as a word.
func truth(yes bool) uint64 {
	if yes {
		return 1
	}
	return 0
}

// place is where a number leads to: one that no int has, as far as can be.
func place(n uint64) int { return int(min(n, math.MaxInt)) }
