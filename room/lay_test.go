package room

import (
	"testing"

	"parley/api"
)

// P20.1: what Lay puts, in its order.
func TestLay(t *testing.T) {
	rooms := []struct {
		name         string
		at, from, to uint64
	}{
		{"ordinary", 0, 20, 30},
		{"elsewhere", 100, 200, 65536},
		{"of one cell", 7, 60, 61},
		{"of no cell", 7, 60, 60},
		{"of no cell, at the first one", 1, 0, 0},
		{"of no cell, at the last one", 1, top, top},
		{"of all cells", 40, 0, top},
		{"the header's last cell is the last one", top - 17, 3, 9},
		{"the header goes round", top - 16, 3, 9},
		{"to's cell is the last one", top - 1, 50, 60},
		{"the heads go round", top - 9, 50, 60},
		{"the header begins at the last one", top, 50, 60},
		{"the last cells", 0, top - 1, top},
		{"the room and the header have cells in common", 10, 5, 50},
	}
	for _, r := range rooms {
		t.Run(r.name, func(t *testing.T) {
			trace := []access{put(r.at, r.from), put(r.at+1, r.to)}
			for n := uint64(1); n <= 16; n++ {
				trace = append(trace, put(r.at+1+n, 0))
			}
			goes(t, words{}, lay(r.at, r.from, r.to), fine(), trace...)

			// What stood there before is nothing to Lay; what stands beside the header stays.
			full := words{r.at - 1: 90, r.at + 18: 91}
			for n := range uint64(18) {
				full[r.at+n] = 100 + n
			}
			goes(t, full, lay(r.at, r.from, r.to), fine(), trace...)
			b := open(full)
			lay(r.at, r.from, r.to)(b)
			if b.words[r.at-1] != 90 || b.words[r.at+Header] != 91 || b.words[r.at] != r.from || b.words[r.at+1] != r.to {
				t.Errorf("the cells are %v", b.words)
			}
		})
	}
}

// P20.1: from above to.
func TestLayOfNoStretch(t *testing.T) {
	for _, r := range [][2]uint64{{30, 20}, {1, 0}, {21, 20}, {top, top - 1}, {top, 0}, {1 << 63, 1<<63 - 1}, {1 << 32, 1<<32 - 1}, {1<<32 + 1, 2}} {
		errs(t, lay(0, r[0], r[1]), api.ErrArg)
		errs(t, lay(top, r[0], r[1]), api.ErrArg)
	}
}

// P20.1: a room that was laid and used is laid anew.
func TestLayAnew(t *testing.T) {
	b := open(words{})
	Lay(b, 0, 20, 60)
	for size := uint64(1); size <= 6; size++ {
		addr, _ := Take(b, 0, size)
		Give(b, 0, addr, size)
	}
	Take(b, 0, 7)
	if err := Lay(b, 0, 25, 50); err != api.OK {
		t.Fatal(err)
	}
	for size := uint64(1); size <= Most; size++ {
		if l, err := Given(b, 0, size); len(l) != 0 || err != api.OK {
			t.Errorf("of size %d %v, %v are given back", size, l, err)
		}
	}
	if n, err := Left(b, 0); n != 25 || err != api.OK {
		t.Errorf("Left answers %d, %v", n, err)
	}
	if addr, err := Take(b, 0, 3); addr != 25 || err != api.OK {
		t.Errorf("Take answers %d, %v", addr, err)
	}
}

// The numbers that the chapter names.
func TestNumbers(t *testing.T) {
	if Header != 18 || Most != 16 {
		t.Errorf("Header is %d, Most is %d", Header, Most)
	}
}
