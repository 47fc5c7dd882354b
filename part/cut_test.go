package part

import (
	"fmt"
	"maps"
	"testing"

	"parley/api"
	"parley/list"
	"parley/queue"
	rooms "parley/room"
)

// headers is where queues and lists lie: apart from all nodes, at the edges of words, and some go round.
var headers = []uint64{100, 1 << 50, top - 12, 1<<63 + 40}

// headersOf is the cells of a header.
func headersOf(kind api.PartKind, header uint64) map[uint64]bool {
	cells := map[uint64]bool{header: true, header + 1: true}
	if kind == api.PartQueue {
		cells[header+2] = true
	}
	return cells
}

// takes is the call that takes out what a part of that kind is taken out of.
func takes(kind api.PartKind, header uint64) call {
	if kind == api.PartList {
		return takesList(header)
	}
	return takesQueue(header)
}

// P26.1: the chain is the part that is answered, the header is that of no word, no other cell is asked for or changed; at most 6 accesses.
func TestQueueAndList(t *testing.T) {
	eachPart(t, func(t *testing.T, w words, p api.Part, nodes, had []uint64) {
		for _, header := range headers {
			before := hung(w, p, header, nodes)
			trace := asks(t, before, takes(p.Kind, header), answer{part: p})
			if len(trace) > 6 {
				t.Errorf("goes by %d accesses: %v", len(trace), trace)
			}
			own := headersOf(p.Kind, header)
			for _, a := range trace {
				if !own[a.addr] {
					t.Errorf("asks for a cell that is not the header's: %v", a)
				}
			}
			behind := before.behind(trace)
			if !maps.Equal(behind, w) {
				t.Errorf("the cells are %v behind it, not %v", behind, w)
			}
			if p.Kind == api.PartQueue {
				holds(t, behind, header)
			} else {
				lists(t, behind, header)
			}
			goesOn(t, behind, p.Kind, header)
		}
	})
}

// goesOn asks whether a queue or a list out of which all was taken goes on as one without words.
func goesOn(t *testing.T, w words, kind api.PartKind, header uint64) {
	t.Helper()
	const room = 1 << 45
	b := open(w)
	rooms.Lay(b, room, room+20, room+30)
	if kind == api.PartList {
		if is, err := list.Insert(b, room, header, 3); !is || err != api.OK {
			t.Errorf("Insert answers %v, %v", is, err)
		}
		lists(t, b.words, header, 3)
		if is, err := list.Remove(b, room, header, 3); !is || err != api.OK {
			t.Errorf("Remove answers %v, %v", is, err)
		}
		lists(t, b.words, header)
		return
	}
	if word, is, err := queue.Take(b, room, header); word != 0 || is || err != api.OK {
		t.Errorf("Take answers %d, %v, %v", word, is, err)
	}
	queue.Put(b, room, header, 3)
	queue.Put(b, room, header, 4)
	holds(t, b.words, header, 3, 4)
	if word, is, err := queue.Take(b, room, header); word != 3 || !is || err != api.OK {
		t.Errorf("Take answers %d, %v, %v", word, is, err)
	}
	holds(t, b.words, header, 4)
}

// P26.1: headers whose cells go round.
func TestHeadersThatGoRound(t *testing.T) {
	nodes, had := []uint64{40, 20, 30}, []uint64{5, 6, 7}
	for _, kind := range kinds {
		for _, header := range []uint64{top - 2, top - 1, top} {
			w, p := chained(kind, nodes, had)
			b := open(hung(w, p, header, nodes))
			if got := takes(kind, header)(b); got != (answer{part: p}) || !maps.Equal(b.words, w) {
				t.Errorf("at %d: answers %v, the cells are %v", header, got, b.words)
			}
			if got := takes(kind, header)(b); got != (answer{part: api.Part{Kind: kind}}) {
				t.Errorf("at %d: answers %v then", header, got)
			}
		}
	}
}

// P26.1: how many words there are does not matter.
func TestManyWords(t *testing.T) {
	for _, kind := range kinds {
		for _, many := range []uint64{1, 2, 1000, api.MaxCells, api.MaxCells + 1, 1 << 40, top} {
			p := api.Part{Kind: kind, First: 51, Count: many}
			b := open(hung(words{}, p, 20, []uint64{50}))
			if got := takes(kind, 20)(b); got != (answer{part: p}) || len(b.trace) > 6 || len(b.words) > 0 {
				t.Errorf("%d words: answers %v behind %v", many, got, b.trace)
			}
		}
	}
}

// P26.1: where nothing is taken out nothing is put.
func TestNothingToTakeOut(t *testing.T) {
	for _, kind := range kinds {
		b := open(words{})
		if got := takes(kind, 20)(b); got != (answer{part: api.Part{Kind: kind}}) || b.puts() > 0 {
			t.Errorf("answers %v behind %v", got, b.trace)
		}
	}
}

// P26.1: of a queue and a list that their own calls have laid, and that were used for a while.
func TestPartsOfWhatTheirCallsLaid(t *testing.T) {
	for many := range uint64(9) {
		t.Run(fmt.Sprint(many), func(t *testing.T) {
			b := open(words{})
			rooms.Lay(b, 0, 20, 90)
			q, _ := queue.New(b, 0)
			l, _ := list.New(b, 0)
			var inQueue, inList []uint64
			queue.Put(b, 0, q, 99)
			list.Insert(b, 0, l, 99)
			for n := range many {
				queue.Put(b, 0, q, 5*(n%3))
				list.Insert(b, 0, l, 80-5*n)
				inQueue, inList = append(inQueue, 5*(n%3)), append([]uint64{80 - 5*n}, inList...)
			}
			queue.Take(b, 0, q)
			list.Remove(b, 0, l, 99)
			first, keys := b.words[q], b.words[l+1]
			p, err := Queue(b, q)
			if p != (api.Part{Kind: api.PartQueue, First: first, Count: many}) || err != api.OK {
				t.Errorf("Queue answers %v, %v", p, err)
			}
			k, err := List(b, l)
			if k != (api.Part{Kind: api.PartList, First: keys, Count: many}) || err != api.OK {
				t.Errorf("List answers %v, %v", k, err)
			}
			holds(t, b.words, q)
			lists(t, b.words, l)
			for _, has := range []struct {
				p    api.Part
				want []uint64
			}{{p, inQueue}, {k, inList}} {
				if got := reads(has.p)(b); got != (answer{list: text(has.want)}) {
					t.Errorf("Read answers %v, not %v", got, has.want)
				}
			}
		})
	}
}

// P26.1: the queue's part leaves a list, and another queue, as they were.
func TestOthersStay(t *testing.T) {
	b := open(words{})
	rooms.Lay(b, 0, 20, 90)
	one, _ := queue.New(b, 0)
	other, _ := queue.New(b, 0)
	l, _ := list.New(b, 0)
	for n := range uint64(3) {
		queue.Put(b, 0, one, n)
		queue.Put(b, 0, other, 10+n)
		list.Insert(b, 0, l, 20+n)
	}
	if p, err := Queue(b, one); p.Count != 3 || err != api.OK {
		t.Errorf("answers %v, %v", p, err)
	}
	holds(t, b.words, other, 10, 11, 12)
	lists(t, b.words, l, 20, 21, 22)
	if p, err := List(b, l); p.Count != 3 || err != api.OK {
		t.Errorf("answers %v, %v", p, err)
	}
	holds(t, b.words, one)
	holds(t, b.words, other, 10, 11, 12)
}
