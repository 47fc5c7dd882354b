package table

// What a leaf's cells have, from its first one on, and how many they are.
const (
	keyAt uint64 = iota
	valueAt
	leafCells
)

// digits is how many digits a hash has: so many nodes lie one below the other at most.
const digits = 16

// digit is the digit d of a key, which is one of its digits.
func digit(key uint64, d int) uint64 {
	hash := Hash(key)
	hash <<= 4 * d
	hash >>= 60
	return hash
}

// kind is what a slot has.
type kind int

const (
	nothing kind = iota
	leaf
	node
)

// empty is the word of a slot that has nothing.
const empty uint64 = 0

// leafAt is the word of a slot that has the leaf at a.
func leafAt(a uint64) uint64 { return 2*a + 1 }

// nodeAt is the word of a slot that has the node at a.
func nodeAt(a uint64) uint64 { return 2*a + 2 }

// within tells what a slot of this word has, and where that lies.
func within(word uint64) (kind, uint64) {
	what := leaf
	switch {
	case word == empty:
		return nothing, 0
	case word%2 == 0:
		// A node's word is one above that of a leaf at its place.
		what = node
		word--
		fallthrough
	default:
		word >>= 1
	}
	return what, word
}
