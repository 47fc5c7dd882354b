package table

import (
	"fmt"
	"maps"
	"math"
	"math/big"
	"testing"

	"parley/api"
	rooms "parley/room"
)

// P25.1: Lay: sixteen puts, rising, into cells that had words or had none; none beside them.
func TestLay(t *testing.T) {
	for _, at := range []uint64{0, 1, 20, 1 << 32, 1<<63 - 8, 1 << 63, top - 16, top - 15, top - 14, top - 7, top} {
		asks(t, words{}, lay(at), none, zeros(at))
		w := words{}
		for n := range uint64(20) {
			w[at-2+n] = 70 + n
		}
		had := maps.Clone(w)
		w = asks(t, w, lay(at), none, zeros(at))
		for n := range uint64(16) {
			delete(had, at+n)
		}
		if !maps.Equal(w, had) {
			t.Errorf("Lay at %d: the cells are %v, not %v", at, w, had)
		}
		asks(t, w, lay(at), none, zeros(at))
	}
}

// P25.1: New: a piece of the room, laid: the first of its cells.
func TestNew(t *testing.T) {
	for _, p := range places {
		w := laid(p)
		w = asks(t, w, lays(p.room), answer{word: p.from}, fresh(p.room, 16, p.from), zeros(p.from))
		w = asks(t, w, lays(p.room), answer{word: p.from + 16}, fresh(p.room, 16, p.from+16), zeros(p.from+16))
		if w[p.from+32] != 9032 {
			t.Errorf("a cell behind the maps' has changed")
		}
	}
}

// P25.1: New of cells that were others' ahead: it has nothing of theirs.
func TestNewOfGivenCells(t *testing.T) {
	for _, p := range places {
		b := open(laid(p))
		var pieces []uint64
		for range 2 {
			piece, err := rooms.Take(b, p.room, 16)
			if err != api.OK {
				t.Fatal(err)
			}
			for n := range uint64(16) {
				b.Put(piece+n, top)
			}
			pieces = append(pieces, piece)
		}
		for _, piece := range pieces {
			rooms.Give(b, p.room, piece, 16)
		}
		last := pieces[1]
		w := asks(t, b.words, lays(p.room), answer{word: last}, again(p.room, 16, last, pieces[0]+1), zeros(last))
		for n := range uint64(16) {
			if w[last+n] != 0 {
				t.Errorf("the cell %d of the map has %d", n, w[last+n])
			}
		}
		asks(t, w, lays(p.room), answer{word: pieces[0]}, again(p.room, 16, pieces[0], 0), zeros(pieces[0]))
	}
}

// P25.1: New out of a room of few cells: nothing is put.
func TestNewOfFewCells(t *testing.T) {
	for _, p := range places {
		for _, cells := range []uint64{0, 1, 15} {
			p.to = p.from + cells
			asks(t, laid(p), lays(p.room), no(api.ErrRoom), noRoom(p.room, 16))
		}
		p.to = p.from + 16
		w := asks(t, laid(p), lays(p.room), answer{word: p.from}, fresh(p.room, 16, p.from), zeros(p.from))
		asks(t, w, lays(p.room), no(api.ErrRoom), noRoom(p.room, 16))
		// Pieces of another size are of no use.
		b := open(w)
		rooms.Give(b, p.room, p.from, 15)
		asks(t, b.words, lays(p.room), no(api.ErrRoom), noRoom(p.room, 16))
	}
}

// P25.1: Hash of 0, of small keys, of great ones.
func TestHash(t *testing.T) {
	rows := []struct{ key, hash uint64 }{
		{0, 0}, {1, 0x9e3779b97f4a7c15}, {2, 0x3c6ef372fe94f82a}, {3, 0xdaa66d2c7ddf743f}, {top, 0x61c8864680b583eb}, {1 << 63, 1 << 63}, {1 << 60, 5 << 60},
	}
	for _, r := range rows {
		if got := Hash(r.key); got != r.hash {
			t.Errorf("Hash(%d) is %x, not %x", r.key, got, r.hash)
		}
	}
	d := drawn(1)
	for n := range 2000 {
		key := d.word()
		if n < 500 {
			key = uint64(n) - 250
		}
		want := new(big.Int).Mul(new(big.Int).SetUint64(key), new(big.Int).SetUint64(mul))
		want.Mod(want, new(big.Int).Lsh(big.NewInt(1), 64))
		if got := Hash(key); got != want.Uint64() {
			t.Errorf("Hash(%d) is %d, not %d", key, got, want)
		}
		// No two keys have one hash: it tells the key.
		if got := Hash(key) * back(); got != key {
			t.Errorf("the hash of %d is that of %d", key, got)
		}
	}
}

// P25.1: Digit: each of the sixteen of any key, the highest first; ErrArg of all other numbers.
func TestDigit(t *testing.T) {
	d := drawn(2)
	keys := []uint64{0, 1, 2, 3, 1 << 60, 1 << 63, top - 1, top, keyOf("0123456789abcdef"), keyOf("fedcba9876543210")}
	for range 200 {
		keys = append(keys, d.word())
	}
	for _, key := range keys {
		told := ""
		for n := range 16 {
			digit, err := Digit(key, n)
			if err != api.OK || digit < 0 || digit > 15 {
				t.Errorf("Digit(%d, %d) is %d, %v", key, n, digit, err)
			}
			told += fmt.Sprintf("%x", digit)
		}
		if want := fmt.Sprintf("%016x", Hash(key)); told != want {
			t.Errorf("the digits of %d are %s, not %s", key, told, want)
		}
		for _, n := range []int{-1, -2, -16, 16, 17, 32, 64, 1 << 20, 1 << 32, 1<<32 + 3, 1 << 62, math.MinInt, math.MinInt + 1, math.MaxInt} {
			if digit, err := Digit(key, n); digit != 0 || err != api.ErrArg {
				t.Errorf("Digit(%d, %d) is %d, %v", key, n, digit, err)
			}
		}
	}
	for key, want := range []int{0, 9, 3, 13, 7, 1} {
		if digit, err := Digit(uint64(key), 0); digit != want || err != api.OK {
			t.Errorf("Digit(%d, 0) is %d, %v, not %d", key, digit, err, want)
		}
	}
}
