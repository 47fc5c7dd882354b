package code

import (
	"slices"
	"testing"

	"parley/api"
)

// joined asks Join for a program.
func joined(t *testing.T, want []api.Instr, l ...[]api.Instr) []api.Instr {
	t.Helper()
	got, err := Join(l...)
	if !slices.Equal(got, want) || err != api.OK {
		t.Fatalf("Join(%v) answers %v, %v, not %v", l, got, err, want)
	}
	return got
}

// modelJoin is Join of formed instructions, said another way: each one is moved by what stands ahead of its program.
func modelJoin(l ...[]api.Instr) []api.Instr {
	var all []api.Instr
	for at, p := range l {
		ahead := 0
		for _, q := range l[:at] {
			ahead += len(q)
		}
		for _, i := range p {
			if i.Op == api.OpJump || i.Op == api.OpZero || i.Op == api.OpAbort {
				i.N += uint64(ahead)
			}
			all = append(all, i)
		}
	}
	return all
}

// P8.4
func TestJoin(t *testing.T) {
	halt := api.Instr{Op: api.OpHalt}
	joined(t, nil)
	joined(t, nil, nil)
	joined(t, nil, nil, []api.Instr{}, nil)
	joined(t, []api.Instr{halt}, []api.Instr{halt})
	targets := []api.Instr{{Op: api.OpJump, N: 1}, {Op: api.OpZero, A: 7, N: 2}, {Op: api.OpAbort, N: 3}, {Op: api.OpConst, A: 3, N: 4}}
	joined(t, targets, targets)
	joined(t, targets, nil, targets, nil)
	joined(t, []api.Instr{halt, halt,
		{Op: api.OpJump, N: 3}, {Op: api.OpZero, A: 7, N: 4}, {Op: api.OpAbort, N: 5}, {Op: api.OpConst, A: 3, N: 4},
		{Op: api.OpJump, N: 7}, {Op: api.OpZero, A: 7, N: 8}, {Op: api.OpAbort, N: 9}, {Op: api.OpConst, A: 3, N: 4}},
		[]api.Instr{halt, halt}, nil, targets, []api.Instr{}, targets)
}

// P8.4: targets go round, and those of the first program stay.
func TestJoinGoesRound(t *testing.T) {
	halt := api.Instr{Op: api.OpHalt}
	for _, op := range []api.Op{api.OpJump, api.OpZero, api.OpAbort} {
		joined(t, []api.Instr{{Op: op, N: top}, halt, {Op: op, N: 1}, {Op: op, N: 0}, {Op: op, N: top}, {Op: api.OpConst, N: top}},
			[]api.Instr{{Op: op, N: top}, halt}, []api.Instr{{Op: op, N: top}, {Op: op, N: top - 1}, {Op: op, N: top - 2}, {Op: api.OpConst, N: top}})
	}
}

// P8.4: one that is not formed, wherever it stands.
func TestJoinRefuses(t *testing.T) {
	halt := api.Instr{Op: api.OpHalt}
	for _, i := range unformed() {
		for _, l := range [][][]api.Instr{
			{{i}}, {{i, halt}}, {{halt, i}}, {{halt}, {i}}, {{i}, {halt}}, {nil, {halt}, nil, {halt, i, halt}, nil},
		} {
			if got, err := Join(l...); got != nil || err != api.ErrCode {
				t.Fatalf("Join(%v) answers %v, %v", l, got, err)
			}
		}
	}
}

// P8.4, P8.5: Join of Joins is Join of all.
func TestJoinOfJoins(t *testing.T) {
	d := drawn(5)
	for range 2000 {
		var l [][]api.Instr
		for range d.below(6) {
			l = append(l, d.program(5))
		}
		all := joined(t, modelJoin(l...), l...)
		a := d.below(len(l) + 1)
		b := a + d.below(len(l)+1-a)
		head, _ := Join(l[:a]...)
		mid, _ := Join(l[a:b]...)
		tail, _ := Join(l[b:]...)
		joined(t, all, head, mid, tail)
	}
}

// What is handed in stays, and answers are new memory, spare room included.
func TestJoinMemory(t *testing.T) {
	whole := []api.Instr{{Op: api.OpJump, N: 1}, {Op: api.OpHalt}, {Op: api.OpEnd}, {Op: api.OpEnd}}
	kept := slices.Clone(whole)
	p := whole[:2]
	alone := joined(t, kept[:2], p)
	spoil(alone)
	joined(t, kept[:2], p)
	want := []api.Instr{{Op: api.OpJump, N: 1}, {Op: api.OpHalt}, {Op: api.OpJump, N: 3}, {Op: api.OpHalt}}
	twice := joined(t, want, p, p)
	other := joined(t, want, p, p)
	spoil(twice)
	if !slices.Equal(whole, kept) || !slices.Equal(other, want) {
		t.Fatalf("Join shares memory: %v, %v", whole, other)
	}
}
