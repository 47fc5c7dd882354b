package thread

import (
	"parley/api"
	"parley/code"
)

// formed tells whether a program is formed.
func formed(p []api.Instr) bool {
	if len(p) < 1 || len(p) > api.MaxCode {
		return false
	}
	for _, i := range p {
		if !code.Formed(i) {
			return false
		}
	}
	return true
}

// mayBe tells whether a state may be for a program, but for what its attempt is by itself.
func mayBe(s api.Thread, p []api.Instr) bool {
	if s.At < 0 || !statusMayBe(s) {
		return false
	}
	if !s.Inside {
		return s.Start == 0 && s.Saved == registers{} && s.Fuel == 0 && isZero(s.Attempt)
	}
	return stands(p, s.Start, api.OpBegin) && s.Fuel >= 0 && s.Fuel <= api.MaxFuel && phaseMayBe(s, p)
}

// statusMayBe tells whether the status goes with the error, and with being inside.
func statusMayBe(s api.Thread) bool {
	switch s.Status {
	case api.Running:
		return s.Err == api.OK
	case api.Ended:
		return s.Err == api.OK && !s.Inside
	case api.Broken:
		return s.Err != api.OK && !s.Inside
	}
	return false
}

// phaseMayBe tells whether the attempt's phase goes with the instruction that is next or under way.
func phaseMayBe(s api.Thread, p []api.Instr) bool {
	under := api.OpEnd
	switch a := s.Attempt; {
	case a.Phase == api.PhaseIdle:
		return true
	case a.Phase == api.PhaseOver:
		return false
	case a.Phase == api.PhaseLoad, a.Phase == api.PhaseLook, a.Then == api.PhaseLoad:
		under = api.OpGet
	}
	return s.Fuel > 0 && stands(p, s.At, under)
}

// stands tells whether such an instruction stands at a place.
func stands(p []api.Instr, at int, op api.Op) bool {
	return at >= 0 && at < len(p) && p[at].Op == op
}

// isZero tells whether an attempt as plain data is zero, an empty list being as none.
func isZero(a api.Attempt) bool {
	return len(a.Reads) == 0 && len(a.Writes) == 0 && a.Snapshot == 0 && a.Phase == 0 && a.Then == 0 &&
		a.Addr == 0 && a.Word == 0 && a.Found == 0 && a.At == 0
}
