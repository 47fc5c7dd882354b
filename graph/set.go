package graph

const (
	most  = 65536 // nodes of a graph
	width = 512   // nodes of a stretch: as many as a short row of words has bits
)

// stretch tells of nodes that follow one another which are there.
type stretch [width / 64]uint64

func (s *stretch) add(n int) { s[n/64] |= 1 << (n % 64) }

func (s *stretch) has(n int) bool { return s[n/64]>>(n%64)&1 == 1 }

// join adds all that are in another one.
func (s *stretch) join(other *stretch) {
	for k := range s {
		s[k] |= other[k]
	}
}

// set tells of all nodes that a graph may have which are there.
type set [most / width]stretch

func (s *set) add(n int) { s[n/width].add(n % width) }

func (s *set) has(n int) bool { return s[n/width].has(n % width) }
