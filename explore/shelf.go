package explore

// shelf has things that nobody changes, each of them once: of two that stand on it is asked no more than whether they are one.
type shelf[T any] struct {
	same func(a, b *T) bool
	kept map[uint64][]*T // by their sums
}

// newShelf is an empty one for things that are told apart so.
func newShelf[T any](same func(a, b *T) bool) shelf[T] {
	return shelf[T]{same, map[uint64][]*T{}}
}

// keep is the thing on the shelf that is the same as this one. If there is none, it is this one from now on.
func (h shelf[T]) keep(sum uint64, thing *T) *T {
	for _, old := range h.kept[sum] {
		if h.same(old, thing) {
			return old
		}
	}
	h.kept[sum] = append(h.kept[sum], thing)
	return thing
}

// mixed is a word out of two, each bit of which hangs on all of theirs. Sums are made by it, word by word.
func mixed(a, b uint64) uint64 {
	a = (a+1)*0x9e3779b97f4a7c15 ^ b
	a ^= a >> 30
	a *= 0xbf58476d1ce4e5b9
	a ^= a >> 27
	a *= 0x94d049bb133111eb
	return a ^ a>>31
}
