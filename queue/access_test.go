package queue

import (
	"testing"

	"parley/api"
)

// P23.5: Put, Take, First, Len go by no more accesses of many words than of few: 24 at most; out of new cells and of those that were given back.
func TestAccesses(t *testing.T) {
	const most = 24
	for _, given := range []bool{false, true} {
		few := map[string]int{}
		for _, many := range []uint64{0, 1, 2, 3, 10, 100, 1000, 20000} {
			p := place{0, 20, 100000}
			var had []uint64
			for word := range many {
				had = append(had, word*31)
			}
			w, q := built(p, had...)
			if given {
				b := open(w)
				Put(b, p.room, q, 5)
				other, err := New(b, p.room)
				if err != api.OK {
					t.Fatal(err)
				}
				Put(b, p.room, other, 7)
				Take(b, p.room, other)
				w = b.words
				many++
			}
			for name, c := range map[string]call{"Put": putIn(p.room, q, 7), "Take": takeOut(p.room, q), "First": first(q), "Len": length(q)} {
				b := open(w)
				if got := c(b); got.err != api.OK {
					t.Fatalf("%s of %d words answers %v", name, many, got)
				}
				got := len(b.trace)
				if got > most {
					t.Errorf("%s of %d words goes by %d accesses", name, many, got)
				}
				// From two words on no queue is of another kind.
				if many >= 2 && few[name] == 0 {
					few[name] = got
				}
				if many >= 2 && got != few[name] {
					t.Errorf("%s of %d words goes by %d accesses, and of few by %d", name, many, got, few[name])
				}
			}
		}
	}
}

// P23.5: who only looks, and Take of no word, put nothing.
func TestWhoOnlyLooks(t *testing.T) {
	for _, had := range rows {
		w, q := built(places[0], had...)
		for name, c := range every(0, q, 5) {
			if name == "New" || name == "Put" || name == "Drop" || name == "Take" && len(had) > 0 {
				continue
			}
			b := open(w)
			if c(b); b.puts() > 0 {
				t.Errorf("%s of %v has put: %v", name, had, b.trace)
			}
		}
	}
}
