package graph

// ready is the nodes that may stand next, as a heap of the library: the least one first.
type ready []int

func (r ready) Len() int { return len(r) }

func (r ready) Less(a, b int) bool { return r[a] < r[b] }

func (r ready) Swap(a, b int) { r[a], r[b] = r[b], r[a] }

func (r *ready) Push(node any) { *r = append(*r, node.(int)) }

func (r *ready) Pop() any {
	last := len(*r) - 1
	node := (*r)[last]
	*r = (*r)[:last]
	return node
}
