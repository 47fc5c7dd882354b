package witness

import (
	"slices"

	"parley/api"
	"parley/plain"
)

// play lets the machine do the blocks in that order, up to the first one that is not found so: its place in the order, -1 if there is none.
func (r *record) play(m *plain.Machine, order []int) int {
	for at, n := range order {
		if !found(m, r.parts[n].Block) {
			return at
		}
	}
	return -1
}

// found lets a block's thread go on up to the end of its next block, and tells whether that one is found so.
func found(m *plain.Machine, b api.Block) bool {
	var p part
	for at, e := range next(m, b.Thread) {
		p.note(at, e)
	}
	return p.Kind == b.Kind && p.Err == b.Err && slices.Equal(p.Reads, b.Reads) && slices.Equal(p.Writes, b.Writes)
}

// next does steps of a thread till one of them is a block: what took place in that. Nothing, if the thread comes to none.
func next(m *plain.Machine, thread int) []api.Event {
	var block []api.Event
steps:
	for range api.MaxPicks {
		told, _ := m.Step(thread)
		for _, e := range told {
			switch e.Kind {
			case api.Begin:
				block = told
				break steps
			case api.Halted, api.Failed:
				break steps
			}
		}
	}
	return block
}

// threads is where all threads of a machine stand.
func threads(m *plain.Machine) []api.Thread {
	var l []api.Thread
	for n := range m.Threads() {
		t, _ := m.Thread(n)
		l = append(l, t)
	}
	return l
}
