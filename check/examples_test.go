package check

import (
	"slices"
	"testing"

	"parley/api"
)

// The chapter's examples, row by row.
func TestExamples(t *testing.T) {
	fine := api.Wrong{At: -1}
	get01 := api.Instr{Op: api.OpGet, B: 1}
	tells(t, program(halt), told{wrong: fine, modes: []api.Mode{1}})
	refused(t, nil, -1, api.ErrCount)
	refused(t, many(halt, 257), -1, api.ErrCount)
	tells(t, program(begin, get01, end, halt), told{wrong: fine, modes: []api.Mode{1, 2, 2, 1}, spans: []api.Span{{Begin: 0, Ends: []int{2}}}})
	refused(t, program(begin, halt), 1, api.ErrMode)
	refused(t, program(get, halt), 0, api.ErrMode)
	refused(t, program(one), 0, api.ErrBehind)
	refused(t, program(jump(5), halt), 0, api.ErrTarget)
	refused(t, program(zero(2), begin, end, halt), 2, api.ErrMode)
	tells(t, program(jump(2), get, halt), told{wrong: fine, modes: []api.Mode{1, 0, 1}})
	tells(t, program(begin, zero(4), abort(5), halt, end, halt), told{
		wrong: fine, modes: []api.Mode{1, 2, 2, 0, 2, 1}, spans: []api.Span{{Begin: 0, Ends: []int{4}, Aborts: []int{2}}}})
	refused(t, program(begin, begin), 1, api.ErrBehind)
	refused(t, program(begin, begin, halt), 1, api.ErrMode)
	p := program(jump(5), halt)
	if l, err := Followers(p, 0); !slices.Equal(l, []int{5}) || err != api.OK {
		t.Errorf("Followers at 0 answers %v, %v", l, err)
	}
	if l, err := Followers(p, 7); l != nil || err != api.ErrArg {
		t.Errorf("Followers at 7 answers %v, %v", l, err)
	}
}
