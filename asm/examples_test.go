package asm

import (
	"testing"

	"parley/api"
)

// The chapter's examples, row by row.
func TestExamples(t *testing.T) {
	reads(t, "begin\nget 0 1\nend\nhalt\n", told{code: []api.Instr{begin, instr(api.OpGet, 0, 1), end, halt}, n: 4})
	p := []api.Instr{begin, zero(0, 3), jump(0)}
	reads(t, " again: begin ; try\n\n\tzero 0 out\n jump again\nout:", told{
		code: p, labels: []api.Label{{Name: "again", Place: 0}, {Name: "out", Place: 3}}, n: 5})
	for _, text := range []string{"jump nowhere", "a: a: halt", "halt halt", "get 0", "add:", "jump 007"} {
		refuses(t, "the third row", text, 0)
	}
	if text, err := List(p); text != "p0: begin\nzero 0 p3\njump p0\np3:\n" || err != api.OK {
		t.Errorf("List answers %q, %v", text, err)
	}
	if text, err := Text(nil); text != "" || err != api.OK {
		t.Errorf("Text of none answers %q, %v", text, err)
	}
	reads(t, "", told{})
	reads(t, "; x", told{n: 1})
	if text, err := Text([]api.Instr{{Op: api.OpHalt, A: 1}}); text != "" || err != api.ErrCode {
		t.Errorf("Text of a halt with A 1 answers %q, %v", text, err)
	}
	s := api.Script{Cells: 4, First: []uint64{7}, Programs: [][]api.Instr{{halt}}, Picks: []uint32{0, 0}}
	if text, err := Script(s); text != "cells 4\nfirst 7\nthread\nhalt\npicks 0 0\n" || err != api.OK {
		t.Errorf("Script answers %q, %v", text, err)
	}
	readsScript(t, "cells 4\n", api.Script{Cells: 4})
	readsScript(t, "cells 4\nthread\n", api.Script{Cells: 4, Programs: [][]api.Instr{nil}})
	refusesScript(t, "cells 04\n", 0)
	refusesScript(t, "cells 4", 0)
}
