package explore

import (
	"parley/api"
	"parley/sched"
)

// place is a state of a script, and how picks lead there and on.
type place struct {
	state
	distance int
	from     int    // the place ahead of it by its first picks
	pick     uint32 // the last of these
	next     []int  // where the steps of its threads lead
}

// space is all states of a script, in the order in which picks come to them: by their distances, of one distance by their first picks.
type space struct {
	threads int
	places  []place
	known   map[sums][]int // the numbers of the places that have those sums
	stage   *stage
}

// survey finds all states of a script.
func survey(s api.Script) (*space, api.Errno) {
	s.Picks = nil // they are not looked at, however many there are
	run, err := sched.New(s)
	if err != api.OK {
		return nil, err
	}
	x := &space{threads: len(s.Programs), known: map[sums][]int{}, stage: newStage(s)}
	x.add(place{state: x.stage.open(run.Outcome())})
	for n := 0; n < len(x.places); n++ {
		if err := x.goOn(n); err != api.OK {
			return nil, err
		}
	}
	return x, api.OK
}

// goOn finds the places behind a place, by its threads' numbers: so each place is found by its first picks first.
func (x *space) goOn(n int) api.Errno {
	p := x.places[n]
	for thread := range x.threads {
		if !p.runs(thread) {
			continue
		}
		behind := x.stage.step(p.state, thread)
		to, has := x.find(behind)
		if !has {
			if len(x.places) == api.MaxStates {
				return api.ErrMany
			}
			to = x.add(place{state: behind, distance: p.distance + 1, from: n, pick: uint32(thread)})
		}
		p.next = append(p.next, to)
	}
	x.places[n] = p
	return api.OK
}

// find is the number of a state's place, if it has one.
func (x *space) find(s state) (int, bool) {
	for _, n := range x.known[s.sums()] {
		if x.places[n].state == s {
			return n, true
		}
	}
	return 0, false
}

// add puts a place behind the others; its number.
func (x *space) add(p place) int {
	n, key := len(x.places), p.sums()
	x.places = append(x.places, p)
	x.known[key] = append(x.known[key], n)
	return n
}

// ends is the numbers of the places that are ends.
func (x *space) ends() []int {
	var l []int
	for n := range x.places {
		if x.places[n].isEnd() {
			l = append(l, n)
		}
	}
	return l
}

// distances is how many places have each distance.
func (x *space) distances() []int {
	var l []int
	for n := range x.places {
		if x.places[n].distance == len(l) {
			l = append(l, 0)
		}
		l[x.places[n].distance]++
	}
	return l
}

// picks is the first picks by which a place comes.
func (x *space) picks(n int) []uint32 {
	l := make([]uint32, x.places[n].distance)
	for at := len(l) - 1; at >= 0; at-- {
		l[at], n = x.places[n].pick, x.places[n].from
	}
	return l
}

// loops tells whether steps lead from some place to itself. A place to which no step leads but from such as are taken away is taken away, too: those of a round never are.
func (x *space) loops() bool {
	left := make([]int, len(x.places)) // how many steps lead to each place, from those that are not taken away
	for n := range x.places {
		for _, to := range x.places[n].next {
			left[to]++
		}
	}
	if left[0] > 0 {
		return true
	}
	away := []int{0} // to each other one a step leads at first
	for n := 0; n < len(away); n++ {
		for _, to := range x.places[away[n]].next {
			if left[to]--; left[to] == 0 {
				away = append(away, to)
			}
		}
	}
	return len(away) < len(x.places)
}
