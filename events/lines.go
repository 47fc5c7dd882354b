package events

import (
	"math"
	"strconv"
	"strings"

	"parley/api"
)

// ownName stands in the place of the kind's name for a Read that is Own.
const ownName = "own"

// shape is a kind's name, and what the kind names.
type shape struct {
	name            string
	addr, word, err bool
}

// shapes are the kinds' shapes by their numbers; ahead of the first one stands none.
var shapes = [...]shape{
	api.Begin:     {name: "begin", word: true},
	api.Read:      {name: "read", addr: true, word: true},
	api.Write:     {name: "write", addr: true, word: true},
	api.Moved:     {name: "moved", word: true},
	api.Locked:    {name: "locked"},
	api.Committed: {name: "committed", word: true},
	api.Stale:     {name: "stale"},
	api.Aborted:   {name: "aborted"},
	api.Failed:    {name: "failed", err: true},
	api.Loaded:    {name: "loaded", addr: true, word: true},
	api.Stored:    {name: "stored", addr: true, word: true},
	api.Halted:    {name: "halted"},
}

// formed tells whether an event is in form.
func formed(e api.Event) bool {
	if e.Thread < 0 || e.Thread >= api.MaxThreads || e.Kind < api.Begin || e.Kind > api.Halted || e != bare(e) {
		return false
	}
	switch e.Kind {
	case api.Begin, api.Moved:
		return e.Word%2 == 0
	case api.Failed:
		return e.Err == api.ErrRange || e.Err == api.ErrFull || e.Err == api.ErrFuel
	}
	return true
}

// bare is an event with nothing but what its kind names.
func bare(e api.Event) api.Event {
	b := api.Event{Thread: e.Thread, Kind: e.Kind, Own: e.Own && e.Kind == api.Read}
	s := shapes[e.Kind]
	if s.addr {
		b.Addr = e.Addr
	}
	if s.word {
		b.Word = e.Word
	}
	if s.err {
		b.Err = e.Err
	}
	return b
}

// written puts the line of an event that is in form behind bytes.
func written(b []byte, e api.Event) []byte {
	s := shapes[e.Kind]
	if e.Own {
		s.name = ownName
	}
	b = strconv.AppendInt(b, int64(e.Thread), 10)
	b = append(append(b, ' '), s.name...)
	if s.addr {
		b = strconv.AppendUint(append(b, ' '), e.Addr, 10)
	}
	if s.word {
		b = strconv.AppendUint(append(b, ' '), e.Word, 10)
	}
	if s.err {
		b = strconv.AppendInt(append(b, ' '), int64(e.Err), 10)
	}
	return b
}

// parts is what of a line is not read yet; more: a blank stood ahead of that, so that a part must follow.
type parts struct {
	rest string
	more bool
}

// next takes a part off a line.
func (p *parts) next() string {
	var part string
	part, p.rest, p.more = strings.Cut(p.rest, " ")
	return part
}

// number takes a part off a line that is a number; false, if it is none, or one above the greatest that may stand there (an int may not hold it).
func (p *parts) number(most uint64) (uint64, bool) {
	part := p.next()
	n, err := strconv.ParseUint(part, 10, 64)
	return n, err == nil && n <= most && (part[0] != '0' || len(part) == 1)
}

// kind takes a part off a line that is a kind's name; false, if it is none.
func (p *parts) kind() (k api.EventKind, own, ok bool) {
	name := p.next()
	if name == ownName {
		return api.Read, true, true
	}
	for k = api.Begin; k <= api.Halted; k++ {
		if shapes[k].name == name {
			return k, false, true
		}
	}
	return 0, false, false
}

// read reads a line without its byte 10; false, if it is no event's line.
func read(line string) (api.Event, bool) {
	var e api.Event
	var s shape
	var n uint64
	var ok bool
	p := parts{rest: line}

	if n, ok = p.number(api.MaxThreads - 1); !ok {
		goto none
	}
	e.Thread = int(n)
	if e.Kind, e.Own, ok = p.kind(); !ok {
		goto none
	}
	switch s = shapes[e.Kind]; {
	case s.addr:
		goto addr
	case s.word:
		goto word
	case s.err:
		goto err
	}
	goto end

addr:
	if e.Addr, ok = p.number(math.MaxUint64); !ok {
		goto none
	}
	goto word // whichever kind names an address names a word behind it

word:
	if e.Word, ok = p.number(math.MaxUint64); !ok {
		goto none
	}
	goto end

err:
	if n, ok = p.number(uint64(api.ErrFuel)); !ok {
		goto none
	}
	e.Err = api.Errno(n)
	goto end

end:
	if !p.more && formed(e) { // numbers may stand there that the kind does not take
		return e, true
	}
	goto none

none:
	return api.Event{}, false
}
