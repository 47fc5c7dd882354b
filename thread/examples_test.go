package thread

import (
	"slices"
	"testing"

	"parley/api"
	"parley/seq"
)

// The chapter's examples, row by row.
func TestExamples(t *testing.T) {
	row, clock := rowOf(t, 5, 6, 7), seq.New()
	x := made(t, prog("const 0 1 | begin | get 1 0 | add 1 1 1 | put 1 0 | end | halt"), row, clock)
	none := api.Event{}
	want := []api.Event{
		none, begun,
		none, read(1, 6),
		none, wrote(1, 12),
		{Kind: api.Locked}, none, committed(1),
		halted, none,
	}
	for n, e := range want {
		if got := step(t, x); got != e {
			t.Errorf("step %d: %v", n+1, got)
		}
		word, _ := row.Copy().Load(1)
		if stored := n+1 >= 8; stored != (word == 12) {
			t.Errorf("step %d: the cell 1 is %d", n+1, word)
		}
	}
	if x.Status() != api.Ended {
		t.Errorf("%+v", x.State())
	}
	ends(t, "get 0 0", []api.Event{failed(api.ErrPlace)}, broken(api.ErrPlace, 0))
	y := made(t, prog("load 0 0 | jump 99"), rowOf(t, 5, 6, 7), seq.New())
	got := []api.Event{step(t, y), step(t, y), step(t, y)}
	if !slices.Equal(got, []api.Event{{Kind: api.Loaded, Word: 5}, none, failed(api.ErrPlace)}) {
		t.Error(got)
	}
}
