package opaque

// span is numbers that follow one another, out of which some are struck. Of each it keeps by how much oftener it is struck than the one ahead of it, so that striking out many takes no longer than striking out one.
type span struct {
	from   int
	struck []int
}

// wholeSpan is the numbers from one to another one, none of them struck.
func wholeSpan(from, upto int) *span {
	return &span{from: from, struck: make([]int, upto-from+2)}
}

// strike strikes out the numbers from one on, up to the one ahead of another one.
func (s *span) strike(from, end int) {
	s.struck[from-s.from]++
	s.struck[end-s.from]--
}

// numbers is those that are left, rising.
func (s *span) numbers() []int {
	var l []int
	often := 0
	for n, more := range s.struck[:len(s.struck)-1] {
		if often += more; often == 0 {
			l = append(l, s.from+n)
		}
	}
	return l
}
