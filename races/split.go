package races

import "parley/api"

// split is a program that may run, each of its loads and stores being a block of its own.
func split(p []api.Instr) []api.Instr {
	places := moved(p)
	var l []api.Instr
	for _, i := range p {
		switch i.Op {
		case api.OpLoad:
			l = append(l, block(api.Instr{Op: api.OpGet, A: i.A, B: i.B})...)
		case api.OpStore:
			l = append(l, block(api.Instr{Op: api.OpPut, A: i.A, B: i.B})...)
		case api.OpJump, api.OpZero, api.OpAbort:
			i.N = places[i.N]
			fallthrough
		default:
			l = append(l, i)
		}
	}
	return l
}

// moved is where each place's instruction begins then.
func moved(p []api.Instr) []uint64 {
	var places []uint64
	next := uint64(0)
	for _, i := range p {
		places = append(places, next)
		if next++; i.Op == api.OpLoad || i.Op == api.OpStore {
			next += 2
		}
	}
	return places
}

// block is a block of one instruction.
func block(i api.Instr) []api.Instr {
	return []api.Instr{{Op: api.OpBegin}, i, {Op: api.OpEnd}}
}
