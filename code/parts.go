package code

import (
	"math"

	"parley/api"
)

// known tells whether there is such an operation.
func known(op api.Op) bool { return op >= api.OpConst && op <= api.OpHalt }

// regs is how many registers an operation has.
func regs(op api.Op) int {
	n := 0
	switch op {
	case api.OpAdd, api.OpSub, api.OpMul, api.OpLess, api.OpEqual:
		n++
		fallthrough
	case api.OpMove, api.OpLoad, api.OpStore, api.OpGet, api.OpPut:
		n++
		fallthrough
	case api.OpConst, api.OpZero:
		n++
	}
	return n
}

// number tells whether an operation has a number, and whether that is a target.
func number(op api.Op) (num, target bool) {
	switch op {
	case api.OpJump, api.OpZero, api.OpAbort:
		target = true
		fallthrough
	case api.OpConst:
		num = true
	}
	return num, target
}

// where tells where an operation may stand.
func where(op api.Op) (outside, inside bool) {
	switch op {
	case api.OpLoad, api.OpStore, api.OpBegin, api.OpHalt:
		return true, false
	case api.OpGet, api.OpPut, api.OpEnd, api.OpAbort:
		return false, true
	}
	return true, true
}

// parts is how many numbers stand behind an operation, registers among them.
func parts(op api.Op) int {
	if num, _ := number(op); num {
		return regs(op) + 1
	}
	return regs(op)
}

// numbers are those that stand behind a formed instruction's operation. Its number, if it has one, stands where a further register would: no operation has three registers and a number.
func numbers(i api.Instr) []uint64 {
	l := []uint64{uint64(i.A), uint64(i.B), uint64(i.C)}
	if num, _ := number(i.Op); num {
		l[regs(i.Op)] = i.N
	}
	return l[:parts(i.Op)]
}

// built is the instruction behind whose operation these numbers stand; false, if one of them should be a register and is none.
func built(op api.Op, l []uint64) (api.Instr, bool) {
	i := api.Instr{Op: op}
	own := [...]*int{&i.A, &i.B, &i.C}
	for at, n := range l[:regs(op)] {
		if n >= api.Regs {
			return api.Instr{}, false
		}
		*own[at] = int(n)
	}
	if num, _ := number(op); num {
		i.N = l[regs(op)]
	}
	return i, true
}

// digits writes a number in decimal digits, from its last one on.
func digits(n uint64) string {
	var d [20]byte
	at := len(d) - 1
	for ; n > 9; at-- {
		d[at] = byte('0' + n%10)
		n /= 10
	}
	d[at] = byte('0' + n)
	return string(d[at:])
}

// decimal reads a number in decimal digits; false, if there is another sign in it, a 0 ahead of others, no digit, or if it is too great for a word.
func decimal(text string) (uint64, bool) {
	n := uint64(0)
	for at, r := range text {
		if r < '0' || r > '9' || at > 0 && n == 0 {
			return 0, false
		}
		d := uint64(r - '0')
		if n > (math.MaxUint64-d)/10 {
			return 0, false
		}
		n *= 10
		n += d
	}
	return n, text != ""
}

// sevens puts a number behind bytes, seven bits a byte. A register is below 128: it is one byte so, as it must be.
func sevens(b []byte, n uint64) []byte {
	for n > 127 {
		b = append(b, byte(n)|128)
		n >>= 7
	}
	return append(b, byte(n))
}

// whole reads a number of seven bits a byte, and in how many bytes it stands; 0 of them, if none stands there.
func whole(b []byte) (uint64, int) {
	n := uint64(0)
	for at, c := range b {
		if at == 9 && c > 1 { // the tenth byte has room for one bit of a word
			return 0, 0
		}
		n |= uint64(c&127) << (7 * at)
		if c > 127 {
			continue
		}
		if c == 0 && at > 0 { // it would have done without this byte
			return 0, 0
		}
		return n, at + 1
	}
	return 0, 0
}

// first reads the instruction with which bytes begin, and how many of them it has; 0, if there is none.
func first(b []byte) (api.Instr, int) {
	op := api.Op(b[0])
	if !known(op) {
		return api.Instr{}, 0
	}
	l := make([]uint64, parts(op))
	end := 1
	for at := range l {
		n, size := whole(b[end:])
		if size == 0 {
			return api.Instr{}, 0
		}
		l[at] = n
		end += size
	}
	i, ok := built(op, l)
	if !ok {
		return api.Instr{}, 0
	}
	return i, end
}
