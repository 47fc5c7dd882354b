package graph

import (
	"math"
	"slices"
	"strings"
	"testing"

	"parley/api"
	"parley/check"
	"parley/code"
	"parley/events"
	"parley/sched"
)

// edges are edges without a kind, each two numbers: From, To.
func edges(l ...int) []api.Edge {
	var out []api.Edge
	for n := 0; n < len(l); n += 2 {
		out = append(out, api.Edge{From: l[n], To: l[n+1]})
	}
	return out
}

// hist reads a history, its events parted by ", ".
func hist(text string) []api.Event {
	if text == "" {
		return nil
	}
	h, at, err := events.Parse(strings.ReplaceAll(text, ", ", "\n") + "\n")
	if err != api.OK {
		panic("no event: " + strings.Split(text, ", ")[at])
	}
	return h
}

// asText is how a history stands in a message.
func asText(h []api.Event) string {
	text, _ := events.Text(h[:min(len(h), 200)])
	return strings.ReplaceAll(text, "\n", ", ")
}

// prog reads a program, its instructions parted by '|'.
func prog(text string) []api.Instr {
	var p []api.Instr
	for line := range strings.SplitSeq(text, "|") {
		i, err := code.Parse(strings.TrimSpace(line))
		if err != api.OK {
			panic("no instruction: " + line)
		}
		p = append(p, i)
	}
	return p
}

// run is the history of a script's picks.
func run(t *testing.T, s api.Script) []api.Event {
	t.Helper()
	o, err := sched.Run(s)
	if err != api.OK {
		t.Fatal(err)
	}
	return o.Events
}

// modelNode is a committed attempt, with what the chapter says of a node.
type modelNode struct {
	try           api.Try
	number, view  uint64
	reads, writes []uint64
}

// modelNodes looks back from each Committed event to its Begin.
func modelNodes(h []api.Event) []modelNode {
	var l []modelNode
	for at, e := range h {
		if e.Kind != api.Committed {
			continue
		}
		begin := at
		for h[begin].Thread != e.Thread || h[begin].Kind != api.Begin {
			begin--
		}
		n := modelNode{try: api.Try{Thread: e.Thread, First: begin, Last: at, How: api.Committed}, number: e.Word}
		for _, f := range events.Of(h[begin:at], e.Thread) {
			switch {
			case f.Kind == api.Begin || f.Kind == api.Moved:
				n.try.Snapshot, n.view = f.Word, f.Word/2
			case f.Kind == api.Read && !f.Own:
				n.try.Reads++
				n.reads = append(n.reads, f.Addr)
			case f.Kind == api.Write:
				n.try.Writes++
				n.writes = append(n.writes, f.Addr)
			}
		}
		l = append(l, n)
	}
	return l
}

// modelHas tells whether there is an edge of a kind from one node to another one, by the chapter's words.
func modelHas(l []modelNode, a, b int, kind api.EdgeKind) bool {
	p, q := l[a], l[b]
	// between tells whether a node that is not one of those writes an address, its number being above one and below another one.
	between := func(addr, above, below uint64, but ...int) bool {
		for n, o := range l {
			if !slices.Contains(but, n) && slices.Contains(o.writes, addr) && o.number > above && o.number < below {
				return true
			}
		}
		return false
	}
	switch kind {
	case api.EdgeTime:
		return p.try.Last < q.try.First
	case api.EdgeWrite:
		return p.number < q.number && slices.ContainsFunc(p.writes, func(addr uint64) bool { return slices.Contains(q.writes, addr) })
	case api.EdgeSeen:
		return slices.ContainsFunc(q.reads, func(addr uint64) bool {
			return slices.Contains(p.writes, addr) && p.number <= q.view && !between(addr, p.number, q.view+1)
		})
	}
	return slices.ContainsFunc(p.reads, func(addr uint64) bool {
		return slices.Contains(q.writes, addr) && q.number > p.view && !between(addr, p.view, q.number, a)
	})
}

// modelOf asks for each edge that may be.
func modelOf(h []api.Event) ([]api.Try, []api.Edge) {
	nodes := modelNodes(h)
	var tries []api.Try
	var l []api.Edge
	for a, n := range nodes {
		tries = append(tries, n.try)
		for b := range nodes {
			for kind := api.EdgeTime; kind <= api.EdgeUnseen; kind++ {
				if a != b && modelHas(nodes, a, b, kind) {
					l = append(l, api.Edge{From: a, To: b, Kind: kind})
				}
			}
		}
	}
	return tries, l
}

// modelKeeps looks for each node and for each edge's ends.
func modelKeeps(n int, order []int, l []api.Edge) bool {
	if len(order) != n {
		return false
	}
	for node := range n {
		if !slices.Contains(order, node) {
			return false
		}
	}
	for _, e := range l {
		if slices.Index(order, e.From) >= slices.Index(order, e.To) {
			return false
		}
	}
	return true
}

// orders tells all orders of nodes, the lesser ones first, till yield has enough.
func orders(n int, ahead []int, yield func([]int) bool) bool {
	if len(ahead) == n {
		return yield(ahead)
	}
	for node := range n {
		if !slices.Contains(ahead, node) && !orders(n, append(slices.Clip(ahead), node), yield) {
			return false
		}
	}
	return true
}

// modelOrder is the first of all orders that is kept; none, if there is none.
func modelOrder(n int, l []api.Edge) (found []int, ok bool) {
	orders(n, nil, func(order []int) bool {
		if modelKeeps(n, order, l) {
			found, ok = order, true
		}
		return !ok
	})
	return found, ok
}

// modelRounds tells the lists of all rounds, begun with whichever of their edges.
func modelRounds(l []api.Edge, ahead []int, yield func([]int)) {
	for number, e := range l {
		if slices.ContainsFunc(ahead, func(n int) bool { return l[n].From == e.From }) || len(ahead) > 0 && l[ahead[len(ahead)-1]].To != e.From {
			continue
		}
		with := append(slices.Clip(ahead), number)
		if e.To == l[with[0]].From {
			yield(with)
		} else {
			modelRounds(l, with, yield)
		}
	}
}

// modelRound is the least of the lists of the shortest rounds.
func modelRound(l []api.Edge) []int {
	var best []int
	modelRounds(l, nil, func(round []int) {
		if best == nil || len(round) < len(best) || len(round) == len(best) && slices.Compare(round, best) < 0 {
			best = round
		}
	})
	return best
}

// modelWays is whether a way leads from each node to each one, found by adding nodes over which ways may go one by one.
func modelWays(n int, l []api.Edge) [][]bool {
	ways := make([][]bool, n)
	for node := range ways {
		ways[node] = make([]bool, n)
	}
	for _, e := range l {
		ways[e.From][e.To] = true
	}
	for over := range n {
		for a := range n {
			for b := range n {
				ways[a][b] = ways[a][b] || ways[a][over] && ways[over][b]
			}
		}
	}
	return ways
}

// modelReach is from, and all nodes to which ways lead.
func modelReach(ways [][]bool, from int) []int {
	var l []int
	for node, leads := range ways[from] {
		if leads || node == from {
			l = append(l, node)
		}
	}
	return l
}

// modelDepths goes over all edges as often as there are nodes.
func modelDepths(n int, l []api.Edge) []int {
	depths := make([]int, n)
	for range n {
		for _, e := range l {
			depths[e.To] = max(depths[e.To], depths[e.From]+1)
		}
	}
	return depths
}

// modelNeeded asks of each edge for one ahead of it that is like it, and for an edge with which a longer way begins.
func modelNeeded(ways [][]bool, l []api.Edge) []int {
	var needed []int
	for number, e := range l {
		like := func(f api.Edge) bool { return f.From == e.From && f.To == e.To }
		longer := func(f api.Edge) bool { return f.From == e.From && ways[f.To][e.To] }
		if !slices.ContainsFunc(l[:number], like) && !slices.ContainsFunc(l, longer) {
			needed = append(needed, number)
		}
	}
	return needed
}

// agrees holds all calls but Of against what a graph's order and round must be, and against the model.
func agrees(t *testing.T, n int, l []api.Edge, order []int, round []int) {
	t.Helper()
	ways := modelWays(n, l)
	found(t, n, l, round...)
	for from := range n {
		reaches(t, n, from, l, modelReach(ways, from)...)
	}
	if round != nil {
		inRound(t, n, l)
		return
	}
	ordered(t, n, l, order...)
	deep(t, n, l, modelDepths(n, l)...)
	need(t, n, l, modelNeeded(ways, l)...)
	if !Keeps(n, order, l...) {
		t.Errorf("Keeps of %d, %v, %v is false", n, order, l)
	}
}

// ordered asks for an order.
func ordered(t *testing.T, n int, l []api.Edge, want ...int) {
	t.Helper()
	if got, err := Order(n, l...); err != api.OK || !slices.Equal(got, want) {
		t.Errorf("Order of %d, %v answers %v, %v, not %v", n, few(l), few(got), err, few(want))
	}
}

// found asks for a round; for none, if no edges are wanted.
func found(t *testing.T, n int, l []api.Edge, want ...int) {
	t.Helper()
	if got, ok, err := Round(n, l...); err != api.OK || ok != (len(want) > 0) || !slices.Equal(got, want) {
		t.Errorf("Round of %d, %v answers %v, %v, %v, not %v", n, few(l), few(got), ok, err, few(want))
	}
}

// reaches asks for the nodes to which ways lead.
func reaches(t *testing.T, n, from int, l []api.Edge, want ...int) {
	t.Helper()
	if got, err := Reach(n, from, l...); err != api.OK || !slices.Equal(got, want) {
		t.Errorf("Reach of %d, %d, %v answers %v, %v, not %v", n, from, few(l), few(got), err, few(want))
	}
}

// deep asks for the nodes' depths.
func deep(t *testing.T, n int, l []api.Edge, want ...int) {
	t.Helper()
	if got, err := Depths(n, l...); err != api.OK || !slices.Equal(got, want) {
		t.Errorf("Depths of %d, %v answers %v, %v, not %v", n, few(l), few(got), err, few(want))
	}
}

// need asks for the needed edges.
func need(t *testing.T, n int, l []api.Edge, want ...int) {
	t.Helper()
	if got, err := Needed(n, l...); err != api.OK || !slices.Equal(got, want) {
		t.Errorf("Needed of %d, %v answers %v, %v, not %v", n, few(l), few(got), err, few(want))
	}
}

// inRound asks the calls that refuse a graph with a round.
func inRound(t *testing.T, n int, l []api.Edge) {
	t.Helper()
	order, err := Order(n, l...)
	depths, err2 := Depths(n, l...)
	needed, err3 := Needed(n, l...)
	if err != api.ErrRound || err2 != api.ErrRound || err3 != api.ErrRound || len(order)+len(depths)+len(needed) > 0 {
		t.Errorf("%d, %v: %v, %v; %v, %v; %v, %v, though there is a round", n, few(l), few(order), err, few(depths), err2, few(needed), err3)
	}
}

// graphOf asks for a history's graph.
func graphOf(t *testing.T, h []api.Event, wantNodes []api.Try, wantEdges ...api.Edge) {
	t.Helper()
	if nodes, l, err := Of(h); err != api.OK || !slices.Equal(nodes, wantNodes) || !slices.Equal(l, wantEdges) {
		t.Errorf("Of of %s answers\n%+v, %v, %v, not\n%+v, %v", asText(h), few(nodes), few(l), err, few(wantNodes), few(wantEdges))
	}
}

// few is a list's beginning, for messages.
func few[T any](l []T) []T { return l[:min(len(l), 60)] }

// drawn is a source of numbers that is the same at each run.
type drawn uint64

func (d *drawn) next() uint64 {
	*d = *d*6364136223846793005 + 1442695040888963407
	return uint64(*d >> 33)
}

func (d *drawn) below(n int) int { return int(d.next() % uint64(n)) }

// kind is any kind of an edge, also one that is none.
func (d *drawn) kind() api.EdgeKind {
	return []api.EdgeKind{0, 1, 2, 3, 4, 5, -1, math.MaxInt, math.MinInt}[d.below(9)]
}

// graph is so many edges of some nodes, with any kinds. Most of some graphs' edges lead to a later node.
func (d *drawn) graph(n, count int) []api.Edge {
	var l []api.Edge
	back := 1 + d.below(30)
	for range count {
		e := api.Edge{From: d.below(n), To: d.below(n), Kind: d.kind()}
		if e.From >= e.To && d.below(back) > 0 {
			if e.From == e.To {
				continue
			}
			e.From, e.To = e.To, e.From
		}
		l = append(l, e)
	}
	return d.renamed(n, l)
}

// winding is so many edges, each of which goes on by a part of a circle of nodes: all rounds go round it, and have so many edges at least.
func (d *drawn) winding(n, count, parts int) []api.Edge {
	var l []api.Edge
	for range count {
		from := d.below(n)
		l = append(l, api.Edge{From: from, To: (from + 1 + d.below(max(n/parts, 1))) % n, Kind: d.kind()})
	}
	return d.renamed(n, l)
}

// shuffled is the numbers below n in some order.
func (d *drawn) shuffled(n int) []int {
	l := make([]int, n)
	for k := range l {
		l[k] = k
	}
	for k := range l {
		other := k + d.below(n-k)
		l[k], l[other] = l[other], l[k]
	}
	return l
}

// renamed is a graph whose nodes and edges have other numbers.
func (d *drawn) renamed(n int, l []api.Edge) []api.Edge {
	names := d.shuffled(n)
	var out []api.Edge
	for _, number := range d.shuffled(len(l)) {
		e := l[number]
		out = append(out, api.Edge{From: names[e.From], To: names[e.To], Kind: e.Kind})
	}
	return out
}

// instr is an instruction of such an operation, whose registers are the first ones.
func (d *drawn) instr(op api.Op, target int) api.Instr {
	form, _ := code.Info(op)
	i := api.Instr{Op: op}
	for n, r := range []*int{&i.A, &i.B, &i.C} {
		if n < form.Regs {
			*r = d.below(3)
		}
	}
	if form.Target {
		i.N = uint64(target)
	} else if form.Num {
		i.N = uint64(d.below(3))
	}
	return i
}

// program is a program without load and store that may run: blocks one behind the other, and at the end now and then back to the beginning.
func (d *drawn) program(blocks int) []api.Instr {
	inside := []api.Op{api.OpGet, api.OpGet, api.OpPut, api.OpPut, api.OpAdd, api.OpConst, api.OpConst, api.OpEqual, api.OpZero}
	var p []api.Instr
	for range blocks {
		for range d.below(3) {
			p = append(p, d.instr(api.OpConst, 0))
		}
		begin := len(p)
		p = append(p, api.Instr{Op: api.OpBegin})
		kinds := inside
		if d.below(3) == 0 { // one that reads alone
			kinds = []api.Op{api.OpGet, api.OpGet, api.OpMove, api.OpConst}
		}
		for range d.below(8) {
			p = append(p, d.instr(kinds[d.below(len(kinds))], len(p)+1))
		}
		if d.below(6) == 0 {
			p = append(p, api.Instr{Op: api.OpZero, A: d.below(3), N: uint64(len(p) + 2)}, api.Instr{Op: api.OpAbort, N: uint64(begin)})
		}
		p = append(p, api.Instr{Op: api.OpEnd})
	}
	if d.below(2) == 0 {
		p = append(p, api.Instr{Op: api.OpJump})
	}
	p = append(p, api.Instr{Op: api.OpHalt})
	if w := check.Program(p); w.Err != api.OK {
		panic(w)
	}
	return p
}

// script is a script without load and store of a few cells, of 1 to 8 threads, with up to so many picks, some of which let one thread go on for a while.
func (d *drawn) script(most int) api.Script {
	s := api.Script{Cells: 1 + d.below(4)}
	for range 1 + d.below(8) {
		s.Programs = append(s.Programs, d.program(1+d.below(3)))
	}
	at := uint32(0)
	for range d.below(most + 1) {
		if d.below(3) > 0 {
			at = uint32(d.next())
		}
		s.Picks = append(s.Picks, at)
	}
	return s
}

// event is one that is in form, mostly of small numbers.
func (d *drawn) event(threads int, number uint64) api.Event {
	kind := []api.EventKind{api.Begin, api.Begin, api.Read, api.Read, api.Read, api.Write, api.Write, api.Moved, api.Moved, api.Locked, api.Locked, api.Committed, api.Committed, api.Stale, api.Aborted, api.Failed, api.Loaded, api.Stored, api.Halted}[d.below(19)]
	e := api.Event{Thread: d.below(threads), Kind: kind}
	switch kind {
	case api.Begin, api.Moved:
		e.Word = 2 * number
	case api.Committed:
		e.Word = number + uint64(d.below(3)) - 1
	case api.Read, api.Write, api.Loaded, api.Stored:
		e.Addr, e.Own = uint64(d.below(3)), kind == api.Read && d.below(4) == 0
		if d.below(20) == 0 {
			e.Addr = math.MaxUint64 - e.Addr
		}
	case api.Failed:
		e.Err = api.Errno(4 + d.below(3))
	}
	return e
}

// history is one that can be, of up to so many events, with plain accesses too.
func (d *drawn) history(most, threads int) []api.Event {
	var h []api.Event
	number := uint64(0)
	for range most * 6 {
		e := d.event(threads, number)
		// What ends a thread, or an attempt without a commit, would else leave few nodes; and the attempts of one thread are to go on while others commit.
		ends := e.Kind == api.Stale || e.Kind == api.Aborted
		if len(h) == most || (e.Kind == api.Halted || e.Kind == api.Failed) && d.below(20) > 0 || ends && d.below(3) > 0 || e.Thread == 1 && (ends || e.Kind == api.Committed) && d.below(8) > 0 {
			continue
		}
		with := append(h[:len(h):len(h)], e)
		if events.Check(with).Err != api.OK {
			continue
		}
		if h = with; e.Kind == api.Committed && e.Word > number {
			number = e.Word
		}
	}
	return h
}
