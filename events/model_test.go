package events

import (
	"fmt"
	"math"
	"math/big"
	"regexp"
	"slices"
	"strings"
	"testing"

	"parley/api"
	"parley/check"
	"parley/code"
	"parley/sched"
)

const top = math.MaxUint64

// fine is what Check says of a history that can be.
var fine = api.Odd{At: -1, Err: api.OK}

func ev(thread int, kind api.EventKind, numbers ...uint64) api.Event {
	e := api.Event{Thread: thread, Kind: kind}
	switch kind {
	case api.Read, api.Write, api.Loaded, api.Stored:
		e.Addr, e.Word = numbers[0], numbers[1]
	case api.Begin, api.Moved, api.Committed:
		e.Word = numbers[0]
	case api.Failed:
		e.Err = api.Errno(numbers[0])
	}
	return e
}

func own(thread int, addr, word uint64) api.Event {
	return api.Event{Thread: thread, Kind: api.Read, Addr: addr, Word: word, Own: true}
}

// short are the kinds' names in the tests' own histories.
var short = map[string]api.EventKind{
	"begin": api.Begin, "read": api.Read, "own": api.Read, "write": api.Write, "moved": api.Moved, "locked": api.Locked, "committed": api.Committed,
	"stale": api.Stale, "aborted": api.Aborted, "failed": api.Failed, "loaded": api.Loaded, "stored": api.Stored, "halted": api.Halted,
}

// hist reads a history, its events parted by commas. It takes events that are not in form, too, and is no user of Parse.
func hist(text string) []api.Event {
	var h []api.Event
	for one := range strings.SplitSeq(text, ",") {
		if strings.TrimSpace(one) == "" {
			continue
		}
		var thread int
		var name string
		var a, b uint64
		n, _ := fmt.Sscan(one, &thread, &name, &a, &b)
		kind, ok := short[name]
		if n < 2 || !ok {
			panic("no event: " + one)
		}
		e := ev(thread, kind, a, b)
		e.Own = name == "own"
		h = append(h, e)
	}
	return h
}

// asText is how a history stands in a message.
func asText(h []api.Event) string {
	var l []string
	for _, e := range h {
		l = append(l, modelLine(e))
	}
	return strings.Join(l, ", ")
}

// modelFormed says of each kind by itself what an event of it looks like.
func modelFormed(e api.Event) bool {
	if e.Thread < 0 || e.Thread > 7 {
		return false
	}
	noAddr, noWord, noOwn, noErr := e.Addr == 0, e.Word == 0, !e.Own, e.Err == 0
	switch e.Kind {
	case api.Begin, api.Moved:
		return noAddr && noOwn && noErr && e.Word&1 == 0
	case api.Committed:
		return noAddr && noOwn && noErr
	case api.Read:
		return noErr
	case api.Write, api.Loaded, api.Stored:
		return noOwn && noErr
	case api.Locked, api.Stale, api.Aborted, api.Halted:
		return noAddr && noWord && noOwn && noErr
	case api.Failed:
		return noAddr && noWord && noOwn && e.Err >= 4 && e.Err <= 6
	}
	return false
}

// standing looks back from the end of a history: how a thread is, and, if it is inside or holds the lock, its attempt's events.
func standing(h []api.Event, thread int) (state string, attempt []api.Event) {
	var own []api.Event
	for _, e := range h {
		if e.Thread == thread {
			own = append(own, e)
		}
	}
	locked := false
	for at := len(own) - 1; at >= 0; at-- {
		switch own[at].Kind {
		case api.Halted, api.Failed:
			return "over", nil
		case api.Committed, api.Stale, api.Aborted:
			return "outside", nil
		case api.Locked:
			locked = true
		case api.Begin:
			if locked {
				return "holding", own[at:]
			}
			return "inside", own[at:]
		}
	}
	return "outside", nil
}

// modelNumber counts the commits with the lock: each has had a Locked.
func modelNumber(h []api.Event) uint64 {
	n := uint64(0)
	for at, e := range h {
		if s, _ := standing(h[:at], e.Thread); e.Kind == api.Committed && s == "holding" {
			n++
		}
	}
	return n
}

func mayHave(state string, e api.Event) bool {
	var l []api.EventKind
	switch state {
	case "outside":
		if e.Kind == api.Failed {
			return e.Err == api.ErrRange
		}
		l = []api.EventKind{api.Begin, api.Loaded, api.Stored, api.Halted}
	case "inside":
		l = []api.EventKind{api.Read, api.Write, api.Moved, api.Locked, api.Committed, api.Stale, api.Aborted, api.Failed}
	case "holding":
		l = []api.EventKind{api.Committed}
	}
	return slices.Contains(l, e.Kind)
}

// modelWhy says why an event can't be behind a history that can be.
func modelWhy(h []api.Event, e api.Event) api.Errno {
	if !modelFormed(e) {
		return api.ErrForm
	}
	state, attempt := standing(h, e.Thread)
	if !mayHave(state, e) {
		return api.ErrTurn
	}
	needsLock := e.Kind == api.Begin || e.Kind == api.Moved || e.Kind == api.Locked
	for thread := range 8 {
		if s, _ := standing(h, thread); s == "holding" && thread != e.Thread && needsLock {
			return api.ErrLock
		}
	}
	snapshot, wrote, last := uint64(0), 0, -1
	for at, a := range attempt {
		switch a.Kind {
		case api.Begin, api.Moved:
			snapshot = a.Word
		case api.Write:
			wrote++
			if a.Addr == e.Addr {
				last = at
			}
		}
	}
	number := modelNumber(h)
	switch {
	case e.Kind == api.Begin && e.Word != number*2,
		e.Kind == api.Moved && (e.Word != number*2 || e.Word <= snapshot),
		e.Kind == api.Locked && snapshot != number*2,
		e.Kind == api.Committed && state == "holding" && e.Word != number+1,
		e.Kind == api.Committed && state == "inside" && e.Word != snapshot>>1:
		return api.ErrNumber
	case e.Kind == api.Locked && wrote == 0,
		e.Kind == api.Committed && state == "inside" && wrote != 0,
		e.Kind == api.Read && e.Own && (last < 0 || attempt[last].Word != e.Word),
		e.Kind == api.Read && !e.Own && last >= 0:
		return api.ErrOwn
	}
	return api.OK
}

// modelCheck asks of each event whether it can be behind those ahead of it.
func modelCheck(h []api.Event) api.Odd {
	for at, e := range h {
		if err := modelWhy(h[:at], e); err != api.OK {
			return api.Odd{At: at, Err: err}
		}
	}
	return fine
}

// modelTries looks forward from each Begin of a history that can be to the thread's next event that ends an attempt.
func modelTries(h []api.Event) []api.Try {
	var l []api.Try
	for first, b := range h {
		if b.Kind != api.Begin {
			continue
		}
		t := api.Try{Thread: b.Thread, First: first}
	forward:
		for at := first; at < len(h); at++ {
			e := h[at]
			if e.Thread != b.Thread {
				continue
			}
			t.Last = at
			switch {
			case e.Kind == api.Begin || e.Kind == api.Moved:
				t.Snapshot = e.Word
			case e.Kind == api.Read && !e.Own:
				t.Reads++
			case e.Kind == api.Write:
				t.Writes++
			case slices.Contains([]api.EventKind{api.Committed, api.Stale, api.Aborted, api.Failed}, e.Kind):
				t.How = e.Kind
				break forward
			}
		}
		l = append(l, t)
	}
	return l
}

func modelCommits(h []api.Event) []int {
	var l []int
	for at := range h {
		if h[at].Kind == api.Committed {
			l = append(l, at)
		}
	}
	return l
}

// modelLine writes an event's line; of one that is not in form all that it has.
func modelLine(e api.Event) string {
	if !modelFormed(e) {
		return fmt.Sprintf("%+v", e)
	}
	switch e.Kind {
	case api.Begin:
		return fmt.Sprintf("%d begin %d", e.Thread, e.Word)
	case api.Read:
		if e.Own {
			return fmt.Sprintf("%d own %d %d", e.Thread, e.Addr, e.Word)
		}
		return fmt.Sprintf("%d read %d %d", e.Thread, e.Addr, e.Word)
	case api.Write:
		return fmt.Sprintf("%d write %d %d", e.Thread, e.Addr, e.Word)
	case api.Moved:
		return fmt.Sprintf("%d moved %d", e.Thread, e.Word)
	case api.Locked:
		return fmt.Sprintf("%d locked", e.Thread)
	case api.Committed:
		return fmt.Sprintf("%d committed %d", e.Thread, e.Word)
	case api.Stale:
		return fmt.Sprintf("%d stale", e.Thread)
	case api.Aborted:
		return fmt.Sprintf("%d aborted", e.Thread)
	case api.Failed:
		return fmt.Sprintf("%d failed %d", e.Thread, int(e.Err))
	case api.Loaded:
		return fmt.Sprintf("%d loaded %d %d", e.Thread, e.Addr, e.Word)
	case api.Stored:
		return fmt.Sprintf("%d stored %d %d", e.Thread, e.Addr, e.Word)
	}
	return fmt.Sprintf("%d halted", e.Thread)
}

func modelText(h []api.Event) string {
	var b strings.Builder
	for _, e := range h {
		b.WriteString(modelLine(e) + "\n")
	}
	return b.String()
}

// lineForm is what lines look like, but for how great their numbers are.
var lineForm = regexp.MustCompile(`\A([0-7]) (?:(begin|moved) (0|[2468]|[1-9][0-9]*[02468])|(committed) (0|[1-9][0-9]*)|(read|own|write|loaded|stored) (0|[1-9][0-9]*) (0|[1-9][0-9]*)|(failed) ([456])|(locked|stale|aborted|halted))\z`)

func modelParse(text string) ([]api.Event, int, api.Errno) {
	var h []api.Event
	lines := strings.SplitAfter(text, "\n")
	if lines[len(lines)-1] == "" { // what is behind the last byte 10 is no line
		lines = lines[:len(lines)-1]
	}
	for at, line := range lines {
		e, ok := modelRead(line)
		if !ok {
			return nil, at, api.ErrText
		}
		h = append(h, e)
	}
	return h, len(lines), api.OK
}

// modelRead reads a line with its byte 10.
func modelRead(line string) (api.Event, bool) {
	body, ended := strings.CutSuffix(line, "\n")
	m := lineForm.FindStringSubmatch(body)
	if !ended || m == nil {
		return api.Event{}, false
	}
	words := strings.Split(body, " ")
	var numbers []uint64
	for _, w := range words[2:] {
		n, _ := new(big.Int).SetString(w, 10)
		if !n.IsUint64() {
			return api.Event{}, false
		}
		numbers = append(numbers, n.Uint64())
	}
	e := ev(int(body[0]-'0'), short[words[1]], append(numbers, 0, 0)...)
	e.Own = words[1] == "own"
	return e, true
}

// drawn is a source of numbers that is the same at each run.
type drawn uint64

func (d *drawn) next() uint64 {
	*d = *d*6364136223846793005 + 1442695040888963407
	return uint64(*d >> 33)
}

func (d *drawn) below(n int) int { return int(d.next() % uint64(n)) }

// event is one that is in form, mostly of small numbers.
func (d *drawn) event(threads int, number uint64) api.Event {
	kind := api.EventKind(1 + d.below(12))
	e := api.Event{Thread: d.below(threads), Kind: kind}
	switch kind {
	case api.Begin, api.Moved:
		if e.Word = 2 * number; d.below(6) == 0 {
			e.Word = 2 * uint64(d.below(4))
		}
	case api.Committed:
		e.Word = number + uint64(d.below(3)) - 1
	case api.Read, api.Write, api.Loaded, api.Stored:
		e.Addr, e.Word, e.Own = uint64(d.below(3)), uint64(d.below(2)), kind == api.Read && d.below(2) == 0
	case api.Failed:
		e.Err = api.Errno(4 + d.below(3))
	}
	return e
}

// history is one that can be, of up to so many events.
func (d *drawn) history(most, threads int) []api.Event {
	var h []api.Event
	number := uint64(0)
	for range most * 6 {
		e := d.event(threads, number)
		// What ends a thread is drawn as often as all else: histories would be over at once.
		if len(h) == most || (e.Kind == api.Halted || e.Kind == api.Failed) && d.below(8) > 0 || modelWhy(h, e) != api.OK {
			continue
		}
		h = append(h, e)
		number = modelNumber(h)
	}
	return h
}

// spoilt is an event with one of its fields changed, which may be in form or not.
func (d *drawn) spoilt(e api.Event) api.Event {
	words := []uint64{0, 1, 2, 3, 4, 6, 1 << 63, top, top - 1}
	switch d.below(6) {
	case 0:
		e.Thread = []int{-1, 0, 1, 2, 7, 8, math.MinInt, math.MaxInt}[d.below(8)]
	case 1:
		e.Kind = api.EventKind([]int{-1, 0, 13, 14, math.MinInt, math.MaxInt, 1 + d.below(12), 1 + d.below(12)}[d.below(8)])
	case 2:
		e.Addr = words[d.below(len(words))]
	case 3:
		e.Word = words[d.below(len(words))]
	case 4:
		e.Own = !e.Own
	case 5:
		e.Err = api.Errno(d.below(9) - 1)
	}
	return e
}

// changed is a history with one thing changed: an event spoilt, left out, told twice, put in, or exchanged with the next one.
func (d *drawn) changed(h []api.Event) []api.Event {
	h = slices.Clone(h)
	if len(h) == 0 {
		return h
	}
	at := d.below(len(h))
	switch d.below(7) {
	case 0, 1:
		h[at] = d.spoilt(h[at])
	case 5, 6:
		h = slices.Insert(h, at, d.event(8, modelNumber(h[:at])))
	case 2:
		h = slices.Delete(h, at, at+1)
	case 3:
		h = slices.Insert(h, at, h[at])
	case 4:
		if at+1 < len(h) {
			h[at], h[at+1] = h[at+1], h[at]
		}
	}
	return h
}

// runs are histories of drawn scripts that were run by drawn picks, with and without plain accesses.
func runs(t *testing.T, many int) [][]api.Event {
	t.Helper()
	d := drawn(77)
	var l [][]api.Event
	for range many {
		s := api.Script{Cells: 1 + d.below(3)}
		for range 1 + d.below(4) {
			s.Programs = append(s.Programs, d.program())
		}
		for range d.below(400) {
			s.Picks = append(s.Picks, uint32(d.next()))
		}
		o, err := sched.Run(s)
		if err != api.OK {
			t.Fatal(err)
		}
		l = append(l, o.Events)
	}
	return l
}

// program is a program of a few blocks that may run, which begins anew at its end.
func (d *drawn) program() []api.Instr {
	var lines []string
	for range 1 + d.below(3) {
		lines = append(lines, []string{"const 0 1", "const 1 2", "load 2 0", "store 2 1", "add 2 2 2"}[d.below(5)], "begin")
		for range d.below(5) {
			lines = append(lines, []string{"get 3 0", "get 4 1", "put 3 1", "put 4 0", "add 3 3 4", "get 3 2", "const 4 7", "put 4 2"}[d.below(8)])
		}
		if d.below(4) == 0 {
			lines = append(lines, fmt.Sprintf("zero %d %d", 3+d.below(2), len(lines)+2), "abort 0")
		}
		lines = append(lines, "end")
	}
	if d.below(3) == 0 {
		lines = append(lines, "jump 0")
	}
	lines = append(lines, "halt")
	var p []api.Instr
	for _, line := range lines {
		i, err := code.Parse(line)
		if err != api.OK {
			panic(line)
		}
		p = append(p, i)
	}
	if w := check.Program(p); w.Err != api.OK {
		panic(w)
	}
	return p
}

// says asks Check for an answer, and Tries and Commits for the same one.
func says(t *testing.T, h []api.Event, want api.Odd) {
	t.Helper()
	if got := Check(h); got != want {
		t.Fatalf("Check(%s) answers %v, not %v", asText(h), got, want)
	}
	tries, odd := Tries(h)
	places, odd2 := Commits(h)
	if odd != want || odd2 != want {
		t.Fatalf("Tries and Commits of %s say %v and %v, not %v", asText(h), odd, odd2, want)
	}
	if want.Err != api.OK {
		if tries != nil || places != nil {
			t.Fatalf("Tries and Commits of %s answer %v and %v beside %v", asText(h), tries, places, want)
		}
		return
	}
	if model := modelTries(h); !slices.Equal(tries, model) {
		t.Fatalf("Tries(%s) answers %v, not %v", asText(h), tries, model)
	}
	if model := modelCommits(h); !slices.Equal(places, model) {
		t.Fatalf("Commits(%s) answers %v, not %v", asText(h), places, model)
	}
}
