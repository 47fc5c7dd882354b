package atoms

import (
	"sync"

	"parley/api"
)

// How many tickets Deal hands out at most.
const maxDealt = 1 << 20

// Mixed: P2.7.
func Mixed(cells int, first []uint64, op api.Mix, lists ...[]api.Touch) ([]uint64, api.Errno) {
	c, err := New(cells, first...)
	if err != api.OK || !isMix(op) || len(lists) > api.MaxCrew {
		return nil, api.ErrArg
	}
	if !every(lists, func(touch api.Touch) bool { return c.has(touch.Addr) }) {
		return nil, api.ErrRange
	}
	crew(len(lists), func(own int) {
		for _, touch := range lists[own] {
			c.Do(op, touch.Addr, touch.Word)
		}
	})
	return c.Words(), api.OK
}

// Deal: P2.8.
func Deal(first uint64, each ...int) ([][]uint64, api.Errno) {
	if len(each) > api.MaxCrew {
		return nil, api.ErrArg
	}
	// Counted down, not up: a sum of numbers that may be any might go round.
	left := maxDealt
	for _, count := range each {
		if count < 0 || count > left {
			return nil, api.ErrArg
		}
		left -= count
	}
	tickets := NewTickets(first)
	got := make([][]uint64, len(each))
	crew(len(each), func(own int) {
		list := make([]uint64, each[own])
		for i := range list {
			list[i], _ = tickets.Next()
		}
		got[own] = list
	})
	return got, api.OK
}

// Claim: P2.9.
func Claim(cells int, lists ...[]uint64) ([][]bool, api.Errno) {
	c, err := New(cells)
	if err != api.OK || len(lists) > api.MaxCrew {
		return nil, api.ErrArg
	}
	if !every(lists, c.has) {
		return nil, api.ErrRange
	}
	claimed := make([][]bool, len(lists))
	crew(len(lists), func(own int) {
		list := make([]bool, len(lists[own]))
		for i, addr := range lists[own] {
			list[i], _ = c.Cas(addr, 0, uint64(own)+1)
		}
		claimed[own] = list
	})
	return claimed, api.OK
}

// First: P2.10.
func First(words ...uint64) ([]uint64, int, api.Errno) {
	if len(words) > api.MaxCrew {
		return nil, 0, api.ErrArg
	}
	var once Once[uint64]
	var calls Tickets
	heard := make([]uint64, len(words))
	crew(len(words), func(own int) {
		heard[own], _ = once.Do(func() uint64 {
			calls.Next()
			return words[own]
		})
	})
	return heard, int(calls.Given()), api.OK
}

// Turns: P2.11.
func Turns(cells int, first []uint64, lists [][]api.Act, picks []uint32) ([][]uint64, []uint64, api.Errno) {
	c, err := New(cells, first...)
	if err != api.OK || len(lists) > api.MaxCrew || !every(lists, isAct) {
		return nil, nil, api.ErrArg
	}
	if !every(lists, func(act api.Act) bool { return c.has(act.Addr) }) {
		return nil, nil, api.ErrRange
	}
	turns := make([]chan int, len(lists))
	for own := range turns {
		turns[own] = make(chan int)
	}
	over := make(chan struct{})
	answers := make([][]uint64, len(lists))
	all := muster(len(lists), func(own int) {
		answers[own] = c.actByTurns(lists[own], turns[own], over)
	})
	lead(lists, picks, turns, over)
	all.Wait()
	return answers, c.Words(), api.OK
}

// lead hands on whose turn it is: it sends to that one how many acts it is to do, and waits till they are over, so that no two go on at a time.
func lead(lists [][]api.Act, picks []uint32, turns []chan int, over <-chan struct{}) {
	if len(lists) == 0 {
		return
	}
	done := make([]int, len(lists))
	for _, pick := range picks {
		own := int(pick % uint32(len(lists)))
		if done[own] == len(lists[own]) {
			continue
		}
		turns[own] <- 1
		<-over
		done[own]++
	}
	for own, list := range lists {
		turns[own] <- len(list) - done[own]
		<-over
		close(turns[own])
	}
}

// actByTurns does a list's acts, at each turn as many as that asks for, and answers what each of them told.
func (c *Cells) actByTurns(acts []api.Act, turns <-chan int, over chan<- struct{}) []uint64 {
	answers := make([]uint64, 0, len(acts))
	for count := range turns {
		for range count {
			answers = append(answers, c.act(acts[len(answers)]))
		}
		over <- struct{}{}
	}
	return answers
}

// act does an act that may be, and answers what is told of its kind.
func (c *Cells) act(act api.Act) uint64 {
	var answer uint64
	switch act.Kind {
	case api.ActLoad:
		answer, _ = c.Load(act.Addr)
	case api.ActStore, api.ActSwap:
		answer, _ = c.Swap(act.Addr, act.Word)
	case api.ActCas:
		if done, _ := c.Cas(act.Addr, act.Old, act.Word); done {
			answer = 1
		}
	case api.ActMix:
		answer, _ = c.Do(act.Mix, act.Addr, act.Word)
	}
	return answer
}

func isAct(act api.Act) bool {
	if act.Kind == api.ActMix {
		return isMix(act.Mix)
	}
	return act.Kind >= api.ActLoad && act.Kind <= api.ActMix
}

// crew does work by so many goroutines, each of which is told its own number; none is left when it is over.
func crew(count int, work func(own int)) { muster(count, work).Wait() }

// muster sets a crew to work, and answers by what it is waited for.
func muster(count int, work func(own int)) *sync.WaitGroup {
	all := new(sync.WaitGroup)
	for own := range count {
		all.Add(1)
		go func() {
			defer all.Done()
			work(own)
		}()
	}
	return all
}

// every asks of all that stands in the lists whether it is so.
func every[T any](lists [][]T, is func(T) bool) bool {
	for _, list := range lists {
		for _, one := range list {
			if !is(one) {
				return false
			}
		}
	}
	return true
}
