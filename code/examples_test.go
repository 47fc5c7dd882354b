package code

import (
	"slices"
	"testing"

	"parley/api"
)

// The chapter's examples, row by row.
func TestExamples(t *testing.T) {
	if f, ok := Info(api.OpAdd); f != (api.Form{Regs: 3, Outside: true, Inside: true}) || !ok {
		t.Errorf("Info(add) answers %+v, %v", f, ok)
	}
	if f, ok := Info(18); f != (api.Form{}) || ok {
		t.Errorf("Info(18) answers %+v, %v", f, ok)
	}
	if Name(17) != "halt" || Name(0) != "" {
		t.Errorf("Name answers %q, %q", Name(17), Name(0))
	}
	if op, ok := Named("jump"); op != 8 || !ok {
		t.Errorf("Named(jump) answers %d, %v", op, ok)
	}
	if op, ok := Named("Jump"); op != 0 || ok {
		t.Errorf("Named(Jump) answers %d, %v", op, ok)
	}
	exampleTexts(t)
	exampleBytes(t)
	got, err := Join([]api.Instr{{Op: api.OpJump}, {Op: api.OpHalt}}, []api.Instr{{Op: api.OpConst, N: 1}, {Op: api.OpJump, N: 1}})
	want := []api.Instr{{Op: api.OpJump}, {Op: api.OpHalt}, {Op: api.OpConst, N: 1}, {Op: api.OpJump, N: 3}}
	if !slices.Equal(got, want) || err != api.OK {
		t.Errorf("Join answers %v, %v", got, err)
	}
}

func exampleTexts(t *testing.T) {
	for _, x := range []struct {
		i    api.Instr
		text string
		err  api.Errno
	}{
		{api.Instr{Op: api.OpAdd, A: 1, B: 2, C: 3}, "add 1 2 3", api.OK},
		{api.Instr{Op: api.OpConst, N: 18446744073709551615}, "const 0 18446744073709551615", api.OK},
		{api.Instr{Op: api.OpEnd}, "end", api.OK},
		{api.Instr{Op: api.OpEnd, A: 1}, "", api.ErrCode},
		{api.Instr{Op: api.OpGet, A: 8}, "", api.ErrCode},
	} {
		if text, err := Text(x.i); text != x.text || err != x.err {
			t.Errorf("Text(%+v) answers %q, %v", x.i, text, err)
		}
	}
	if i, err := Parse("zero 7 0"); i != (api.Instr{Op: api.OpZero, A: 7}) || err != api.OK {
		t.Errorf("Parse(zero 7 0) answers %+v, %v", i, err)
	}
	for _, line := range []string{"zero 7", "zero 7 00", "end ", "add 1 2 3 4"} {
		if i, err := Parse(line); i != (api.Instr{}) || err != api.ErrCode {
			t.Errorf("Parse(%q) answers %+v, %v", line, i, err)
		}
	}
}

func exampleBytes(t *testing.T) {
	l := []api.Instr{{Op: api.OpConst, A: 2, N: 300}, {Op: api.OpEnd}}
	b, err := Bytes(l...)
	if !slices.Equal(b, []byte{1, 2, 172, 2, 15}) || err != api.OK {
		t.Errorf("Bytes answers %v, %v", b, err)
	}
	reads(t, b, l)
	refuses(t, "the second", []byte{1, 2, 172}, 0)
	refuses(t, "the third", []byte{15, 1, 2}, 1)
	refuses(t, "the fourth", []byte{15, 1, 2, 172, 0}, 1)
}
