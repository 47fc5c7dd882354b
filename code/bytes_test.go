package code

import (
	"bytes"
	"encoding/binary"
	"slices"
	"testing"

	"parley/api"
)

// bytesOf are formed instructions' bytes, as the chapter has them.
func bytesOf(l ...api.Instr) []byte {
	var b []byte
	for _, i := range l {
		row := table[i.Op-1]
		b = append(b, byte(i.Op))
		for _, r := range []int{i.A, i.B, i.C}[:row.form.Regs] {
			b = append(b, byte(r))
		}
		if row.form.Num {
			b = binary.AppendUvarint(b, i.N)
		}
	}
	return b
}

// reads asks Read for instructions, all bytes being read.
func reads(t *testing.T, b []byte, want []api.Instr) {
	t.Helper()
	if got, n, err := Read(b); !slices.Equal(got, want) || n != len(b) || err != api.OK {
		t.Fatalf("Read(%v) answers %v, %d, %v, not %v", b, got, n, err, want)
	}
}

// refuses asks Read for a refusal and its place.
func refuses(t *testing.T, what string, b []byte, at int) {
	t.Helper()
	if got, n, err := Read(b); got != nil || n != at || err != api.ErrCode {
		t.Fatalf("%s: Read(%v) answers %v, %d, %v, not the place %d", what, b, got, n, err, at)
	}
}

// P8.3, P8.5: Read of Bytes is the instruction.
func TestBytesOfOne(t *testing.T) {
	for _, i := range formed() {
		b, err := Bytes(i)
		if !bytes.Equal(b, bytesOf(i)) || err != api.OK {
			t.Fatalf("Bytes(%+v) answers %v, %v, not %v", i, b, err, bytesOf(i))
		}
		reads(t, b, []api.Instr{i})
	}
	for _, i := range unformed() {
		if b, err := Bytes(i); b != nil || err != api.ErrCode {
			t.Errorf("Bytes(%+v) answers %v, %v", i, b, err)
		}
	}
}

// P8.3: the numbers' bytes, written out.
func TestBytesOfNumbers(t *testing.T) {
	for _, x := range []struct {
		n    uint64
		want []byte
	}{
		{0, []byte{8, 0}},
		{1, []byte{8, 1}},
		{127, []byte{8, 127}},
		{128, []byte{8, 128, 1}},
		{255, []byte{8, 255, 1}},
		{300, []byte{8, 172, 2}},
		{16383, []byte{8, 255, 127}},
		{16384, []byte{8, 128, 128, 1}},
		{1<<63 - 1, []byte{8, 255, 255, 255, 255, 255, 255, 255, 255, 127}},
		{1 << 63, []byte{8, 128, 128, 128, 128, 128, 128, 128, 128, 128, 1}},
		{top, []byte{8, 255, 255, 255, 255, 255, 255, 255, 255, 255, 1}},
	} {
		i := api.Instr{Op: api.OpJump, N: x.n}
		if b, err := Bytes(i); !bytes.Equal(b, x.want) || err != api.OK {
			t.Errorf("Bytes(jump %d) answers %v, %v, not %v", x.n, b, err, x.want)
		}
		reads(t, x.want, []api.Instr{i})
	}
}

// P8.3, P8.5: of none and of several, and with one among them that is not formed.
func TestBytesOfSeveral(t *testing.T) {
	for what, l := range map[string][]api.Instr{"nil": nil, "empty": {}} {
		if b, err := Bytes(l...); len(b) != 0 || err != api.OK {
			t.Errorf("Bytes of %s answers %v, %v", what, b, err)
		}
	}
	d := drawn(3)
	for range 2000 {
		l := d.program(12)
		b, err := Bytes(l...)
		if !bytes.Equal(b, bytesOf(l...)) || err != api.OK {
			t.Fatalf("Bytes(%v) answers %v, %v, not %v", l, b, err, bytesOf(l...))
		}
		reads(t, b, l)
		wrong := unformed()
		at := d.below(len(l) + 1)
		l = slices.Insert(l, at, wrong[d.below(len(wrong))])
		if b, err := Bytes(l...); b != nil || err != api.ErrCode {
			t.Fatalf("Bytes(%v) answers %v, %v", l, b, err)
		}
	}
}

// P8.3: bytes that are none, first and behind others.
func TestReadOfNone(t *testing.T) {
	reads(t, nil, nil)
	reads(t, []byte{}, nil)
	for what, list := range map[string][][]byte{
		"an end within": {{1}, {1, 2}, {1, 2, 172}, {2}, {2, 7}, {3}, {3, 1}, {3, 1, 2}, {8}, {8, 128}, {8, 255, 255}, {9}, {9, 0}, {9, 0, 128}, {10, 1}, {11, 1}, {13, 1}, {14, 1}, {16}, {16, 129},
			{8, 255, 255, 255, 255, 255, 255, 255, 255, 255}},
		"no operation":       {{0}, {18}, {19}, {127}, {128}, {255}, {0, 0}, {18, 1, 1}, {129, 0, 0}, {15 + 128}},
		"no register":        {{1, 8, 0}, {1, 9, 0}, {1, 255, 0}, {1, 128, 0}, {1, 129, 0, 0}, {2, 8, 0}, {2, 0, 8}, {3, 1, 2, 8}, {3, 1, 8, 2}, {3, 8, 1, 2}, {3, 1, 2, 128}, {9, 8, 0}, {9, 135, 0, 0}, {13, 0, 255}, {13, 0, 255, 1}, {14, 128, 0}, {14, 7, 128, 0}},
		"more than it needs": {{8, 128, 0}, {8, 255, 0}, {8, 129, 0}, {8, 172, 130, 0}, {1, 2, 172, 0}, {9, 0, 128, 128, 0}, {16, 255, 255, 255, 255, 255, 255, 255, 255, 255, 0}, {8, 128, 128, 128, 128, 128, 128, 128, 128, 128, 0}},
		"too great": {{8, 255, 255, 255, 255, 255, 255, 255, 255, 255, 2}, {8, 128, 128, 128, 128, 128, 128, 128, 128, 128, 2}, {8, 255, 255, 255, 255, 255, 255, 255, 255, 255, 3}, {8, 255, 255, 255, 255, 255, 255, 255, 255, 255, 127},
			{8, 128, 128, 128, 128, 128, 128, 128, 128, 128, 128, 1}, {8, 129, 128, 128, 128, 128, 128, 128, 128, 128, 129, 1}, {8, 129, 128, 128, 128, 128, 128, 128, 128, 128, 128, 0}, {1, 0, 255, 255, 255, 255, 255, 255, 255, 255, 255, 255, 255, 255, 1}},
	} {
		for _, b := range list {
			refuses(t, what, b, 0)
			for _, ahead := range [][]byte{{15}, {12, 15, 17}, {1, 2, 172, 2}, {3, 1, 2, 3, 8, 128, 1}} {
				refuses(t, what+" behind others", append(slices.Clone(ahead), b...), len(ahead))
			}
		}
	}
	refuses(t, "many", append(bytes.Repeat([]byte{12}, 1<<16), 8), 1<<16)
	refuses(t, "a long number", append([]byte{17, 8}, bytes.Repeat([]byte{128}, 1<<16)...), 1)
	refuses(t, "one that is none ahead of others that are", []byte{15, 18, 15}, 1)
}

// P8.3: all rows of up to four bytes out of those at which something changes.
func TestReadSmall(t *testing.T) {
	signs := []byte{0, 1, 2, 3, 7, 8, 9, 13, 15, 17, 18, 127, 128, 255}
	var rows func(b []byte, left int)
	rows = func(b []byte, left int) {
		l, n, err := Read(b)
		want, at := modelRead(b)
		if !slices.Equal(l, want) || n != at || (err == api.OK) != (at == len(b)) || err != api.OK && err != api.ErrCode {
			t.Fatalf("Read(%v) answers %v, %d, %v, not %v, %d", b, l, n, err, want, at)
		}
		if left == 0 {
			return
		}
		for _, c := range signs {
			rows(append(b[:len(b):len(b)], c), left-1)
		}
	}
	rows(nil, 4)
}

// modelRead reads one instruction behind the other by modelFirst.
func modelRead(b []byte) ([]api.Instr, int) {
	var l []api.Instr
	at := 0
	for at < len(b) {
		i, size := modelFirst(b[at:])
		if size == 0 {
			return nil, at
		}
		l = append(l, i)
		at += size
	}
	return l, at
}

// modelFirst reads by the library's own reading of such numbers, and holds what it has read against the bytes.
func modelFirst(b []byte) (api.Instr, int) {
	i := api.Instr{Op: api.Op(b[0])}
	if i.Op < 1 || i.Op > 17 {
		return api.Instr{}, 0
	}
	at, row := 1, table[i.Op-1]
	for n := range row.form.Regs {
		if at == len(b) {
			return api.Instr{}, 0
		}
		*[]*int{&i.A, &i.B, &i.C}[n] = int(b[at])
		at++
	}
	if row.form.Num {
		i.N, _ = binary.Uvarint(b[at:])
	}
	if !Formed(i) || !bytes.HasPrefix(b, bytesOf(i)) {
		return api.Instr{}, 0
	}
	return i, len(bytesOf(i))
}

// P8.3: bytes that are changed at one place, cut, or drawn.
func TestReadChanged(t *testing.T) {
	d := drawn(4)
	for range 20000 {
		b := bytesOf(d.program(6)...)
		for range d.below(3) {
			if len(b) > 0 {
				b[d.below(len(b))] = byte(d.next())
			}
		}
		b = b[:len(b)-d.below(min(len(b)+1, 3))]
		l, n, err := Read(b)
		want, at := modelRead(b)
		if !slices.Equal(l, want) || n != at || (err == api.OK) != (at == len(b)) || err != api.OK && err != api.ErrCode {
			t.Fatalf("Read(%v) answers %v, %d, %v, not %v, %d", b, l, n, err, want, at)
		}
	}
}

// P8.5: no instruction's bytes begin with another one's. Sorted, such a one would stand right ahead.
func TestNoBytesBegin(t *testing.T) {
	var all [][]byte
	for _, i := range formed() {
		b, _ := Bytes(i)
		all = append(all, b)
	}
	slices.SortFunc(all, bytes.Compare)
	for at := 1; at < len(all); at++ {
		if bytes.HasPrefix(all[at], all[at-1]) {
			t.Fatalf("%v begins with %v", all[at], all[at-1])
		}
	}
}

// What is handed in stays, and answers are new memory, spare room included.
func TestBytesMemory(t *testing.T) {
	l := []api.Instr{{Op: api.OpConst, A: 2, N: 300}, {Op: api.OpEnd}, {Op: api.OpHalt}, {Op: api.OpHalt}}
	kept := slices.Clone(l)
	b, _ := Bytes(l[:2]...)
	other, _ := Bytes(l[:2]...)
	spoil(b)
	if want := []byte{1, 2, 172, 2, 15}; !bytes.Equal(other, want) || !slices.Equal(l, kept) {
		t.Fatalf("two answers, or an answer and what was handed in, share memory: %v, %v", other, l)
	}
	room := append(slices.Clone(other), 99, 99)[:len(other)]
	got, _, _ := Read(room)
	again, _, _ := Read(room)
	spoil(got)
	if !slices.Equal(again, l[:2]) || !bytes.Equal(room[:7], []byte{1, 2, 172, 2, 15, 99, 99}) {
		t.Fatalf("Read's answers share memory: %v, %v", again, room[:7])
	}
	if got, n, err := Read(room[:3]); got != nil || n != 0 || err != api.ErrCode {
		t.Fatalf("Read looks behind its bytes: %v, %d, %v", got, n, err)
	}
}

// spoil overwrites a list, spare room included.
func spoil[T any](l []T) {
	clear(l[:cap(l)])
}
