package check

import (
	"math"
	"slices"

	"parley/api"
	"parley/code"
)

// Where a place can be.
const (
	outside = iota
	inside
)

// sides tells of outside and inside whether ways lead to a place there, or whether an instruction may stand there.
type sides [2]bool

var (
	neither = sides{false, false}
	both    = sides{true, true}
)

// mode is the mode of a place to which no ways lead with both.
func (s sides) mode() api.Mode {
	switch {
	case s[inside]:
		return api.ModeInside
	case s[outside]:
		return api.ModeOutside
	}
	return api.ModeNever
}

// look tells how ways lead to each place, and what is wrong. The order of its questions is the promise's, and each leans on those ahead: no way is gone along before all targets are known to be places, no operation is looked up before it is known to be one.
func look(p []api.Instr) ([]sides, api.Wrong) {
	if len(p) < 1 || len(p) > api.MaxCode {
		return nil, api.Wrong{At: nowhere, Err: api.ErrCount}
	}
	for at, i := range p {
		if !code.Formed(i) {
			return nil, api.Wrong{At: at, Err: api.ErrForm}
		}
	}
	for at, i := range p {
		if f, _ := code.Info(i.Op); f.Target && i.N >= uint64(len(p)) {
			return nil, api.Wrong{At: at, Err: api.ErrTarget}
		}
	}
	found, last := spread(p)
	if last != nowhere {
		return nil, api.Wrong{At: last, Err: api.ErrBehind}
	}
	if at := misplaced(p, found); at != nowhere {
		return nil, api.Wrong{At: at, Err: api.ErrMode}
	}
	return found, fine()
}

// spread goes along all ways, and tells how they lead to each place; or the place from which one leads to no place: as all targets are places, that can be the last one alone.
func spread(p []api.Instr) ([]sides, int) {
	type point struct{ place, side int }
	found := make([]sides, len(p))
	found[0][outside] = true
	astray := nowhere
	list := []point{{0, outside}}
spreading:
	for n := 0; n < len(list); n++ {
		here := list[n]
		i := p[here.place]
		side := sideBehind(i.Op, here.side)
		for _, next := range followers(i, here.place) {
			if next >= len(p) {
				astray = here.place
				break spreading
			}
			if !found[next][side] {
				found[next][side] = true
				list = append(list, point{next, side})
			}
		}
	}
	return found, astray
}

// sideBehind is where a way is behind an operation, if it was there ahead of it.
func sideBehind(op api.Op, side int) int {
	switch op {
	case api.OpBegin:
		return inside
	case api.OpEnd, api.OpAbort:
		return outside
	}
	return side
}

// misplaced is the first place to which ways lead on both sides, or on one where its instruction may not stand.
func misplaced(p []api.Instr, found []sides) int {
	may := standing()
	for at, s := range found {
		if s == neither {
			continue
		}
		if m := may[p[at].Op]; s == both || m != both && m != s {
			return at
		}
	}
	return nowhere
}

// standing is where instructions may stand, by their operations.
func standing() [api.OpHalt + 1]sides {
	var may [api.OpHalt + 1]sides
	for op := range may {
		f, _ := code.Info(api.Op(op))
		may[op] = sides{f.Outside, f.Inside}
	}
	return may
}

// followers are those of an instruction at a place, rising; it need not be in form.
func followers(i api.Instr, at int) []int {
	var l []int
	switch i.Op {
	case api.OpHalt:
	case api.OpZero:
		l = append(l, at+1)
		fallthrough
	case api.OpJump, api.OpAbort:
		l = append(l, int(min(i.N, math.MaxInt32)))
	default:
		l = append(l, at+1)
	}
	slices.Sort(l)
	return slices.Compact(l)
}

// span is the block of a begin: all ways from it are gone along, each up to its first end or abort.
func span(p []api.Instr, begin int) api.Span {
	s := api.Span{Begin: begin}
	been := make([]bool, len(p))
	list := []int{begin}
walking:
	for n := 0; n < len(list); n++ {
		here := list[n]
		switch p[here].Op {
		case api.OpEnd:
			s.Ends = append(s.Ends, here)
			continue walking
		case api.OpAbort:
			s.Aborts = append(s.Aborts, here)
			continue walking
		}
		for _, next := range followers(p[here], here) {
			if !been[next] {
				been[next] = true
				list = append(list, next)
			}
		}
	}
	slices.Sort(s.Ends)
	slices.Sort(s.Aborts)
	return s
}
