package events

import (
	"slices"
	"strings"
	"testing"

	"parley/api"
)

// formedOnes are events that are in form: each kind, each thread, numbers at their edges.
func formedOnes() []api.Event {
	var l []api.Event
	words := []uint64{0, 1, 9, 10, 11, 99, 100, 1<<32 - 1, 1 << 32, 1<<63 - 1, 1 << 63, top - 1, top}
	for thread := range 8 {
		for _, kind := range []api.EventKind{api.Locked, api.Stale, api.Aborted, api.Halted} {
			l = append(l, ev(thread, kind))
		}
		for n := range uint64(3) {
			l = append(l, ev(thread, api.Failed, 4+n))
		}
		for _, a := range words {
			l = append(l, ev(thread, api.Begin, a&^1), ev(thread, api.Moved, a&^1), ev(thread, api.Committed, a))
			for _, b := range words {
				l = append(l, ev(thread, api.Read, a, b), own(thread, a, b), ev(thread, api.Write, a, b), ev(thread, api.Loaded, a, b), ev(thread, api.Stored, a, b))
			}
		}
	}
	return l
}

// parses asks Parse for a history.
func parses(t *testing.T, text string, want []api.Event) {
	t.Helper()
	if h, n, err := Parse(text); !slices.Equal(h, want) || n != len(want) || err != api.OK {
		t.Fatalf("Parse(%q) answers %v, %d, %v, not %v", text, h, n, err, want)
	}
}

// refuses asks Parse for the number of the line that is none.
func refuses(t *testing.T, text string, line int) {
	t.Helper()
	if h, n, err := Parse(text); h != nil || n != line || err != api.ErrText {
		t.Fatalf("Parse(%q) answers %v, %d, %v, not the line %d", text, h, n, err, line)
	}
}

// P13.4: the line of each kind, written out.
func TestLineOfEachKind(t *testing.T) {
	for text, e := range map[string]api.Event{
		"0 begin 0":                        ev(0, api.Begin, 0),
		"7 begin 18446744073709551614":     ev(7, api.Begin, top-1),
		"1 read 10 20":                     ev(1, api.Read, 10, 20),
		"3 own 7 9":                        own(3, 7, 9),
		"2 write 0 18446744073709551615":   ev(2, api.Write, 0, top),
		"3 moved 100":                      ev(3, api.Moved, 100),
		"4 locked":                         ev(4, api.Locked),
		"5 committed 18446744073709551615": ev(5, api.Committed, top),
		"0 committed 0":                    ev(0, api.Committed, 0),
		"6 stale":                          ev(6, api.Stale),
		"7 aborted":                        ev(7, api.Aborted),
		"0 failed 4":                       ev(0, api.Failed, 4),
		"0 failed 5":                       ev(0, api.Failed, 5),
		"0 failed 6":                       ev(0, api.Failed, 6),
		"1 loaded 18446744073709551615 0":  ev(1, api.Loaded, top, 0),
		"2 stored 1 2":                     ev(2, api.Stored, 1, 2),
		"3 halted":                         ev(3, api.Halted),
	} {
		if got, err := Line(e); got != text || err != api.OK {
			t.Errorf("Line(%+v) answers %q, %v, not %q", e, got, err, text)
		}
		parses(t, text+"\n", []api.Event{e})
	}
}

// P13.4, P13.5: lines and texts of all sorts of events, and back.
func TestTextAndBack(t *testing.T) {
	all := formedOnes()
	for _, e := range all {
		line, err := Line(e)
		if line != modelLine(e) || err != api.OK {
			t.Fatalf("Line(%+v) answers %q, %v", e, line, err)
		}
		text, err := Text([]api.Event{e})
		if text != line+"\n" || err != api.OK {
			t.Fatalf("Text(%+v) answers %q, %v", e, text, err)
		}
		parses(t, text, []api.Event{e})
	}
	text, err := Text(all)
	if text != modelText(all) || err != api.OK {
		t.Fatalf("Text of all: %v", err)
	}
	parses(t, text, all)
	for _, h := range [][]api.Event{nil, {}} {
		if text, err := Text(h); text != "" || err != api.OK {
			t.Errorf("Text of none answers %q, %v", text, err)
		}
	}
	parses(t, "", nil)
	parses(t, "0 halted\n0 halted\n", hist("0 halted, 0 halted")) // a history's text, if one that can't be
}

// P13.4: what is not in form has no line, and no history with it a text.
func TestTextOfUnformed(t *testing.T) {
	for _, e := range unformed() {
		if text, err := Line(e); text != "" || err != api.ErrForm {
			t.Errorf("Line(%+v) answers %q, %v", e, text, err)
		}
		some := hist("0 begin 0, 0 read 1 1, 0 stale")
		for at := range len(some) + 1 {
			if text, err := Text(slices.Insert(slices.Clone(some), at, e)); text != "" || err != api.ErrForm {
				t.Errorf("Text with %+v at %d answers %q, %v", e, at, text, err)
			}
		}
	}
}

// P13.4: each way in which a line is none, alone, behind others and ahead of others.
func TestParseOfNone(t *testing.T) {
	for what, lines := range map[string][]string{
		"empty":            {"", " ", "\t", "\r", "\x00", "  "},
		"blanks":           {"0  begin 0", "0 begin  0", " 0 begin 0", "0 begin 0 ", "0 locked ", " 0 locked", "0  locked", "0\tbegin 0", "0 begin\t0", "0 read 1  1", "0 read 1 1 ", "0 begin 0\r", "0 begin 0\t", "0 failed 4 ", "0 begin 0 \r"},
		"a 0 ahead":        {"00 begin 0", "07 begin 0", "0 begin 00", "0 begin 02", "0 read 01 1", "0 read 1 01", "0 read 00 0", "0 failed 04", "0 committed 00", "0 begin 000000000000000000000000"},
		"signs":            {"+0 begin 0", "-0 begin 0", "-1 begin 0", "0 begin +0", "0 begin -0", "0 begin -2", "0 read +1 1", "0 read 1 -1", "0 begin 0x0", "0 begin 1_0", "0 begin 2.0", "0 begin 2e1", "0 begin ٢", "٠ begin 0", "0 failed +4", "0 failed -4"},
		"too great":        {"8 begin 0", "9 locked", "10 locked", "18446744073709551616 locked", "99999999999999999999999999 locked", "0 begin 18446744073709551616", "0 moved 18446744073709551618", "0 committed 18446744073709551616", "0 read 18446744073709551616 0", "0 own 0 18446744073709551616", "0 write 0 99999999999999999999", "0 loaded 184467440737095516150 1", "0 stored 1 36893488147419103232", "0 failed 18446744073709551620", "0 failed 4294967300"},
		"odd words":        {"0 begin 1", "0 begin 3", "0 moved 1", "0 moved 18446744073709551615", "0 begin 18446744073709551615"},
		"errors":           {"0 failed 0", "0 failed 1", "0 failed 2", "0 failed 3", "0 failed 7", "0 failed 8", "0 failed 44", "0 failed 201", "0 failed"},
		"names":            {"0 Begin 0", "0 BEGIN 0", "0 beginn 0", "0 begi 0", "0 0", "0 0 0", "0 reads 1 1", "0 Own 1 1", "0 commit 1", "0 lock", "0 halt", "0 end", "0 load 1 1", "begin 0", "locked", "0 2 0", "0 begin0", "0begin 0", "x begin 0", "0 none", "0 1"},
		"too few parts":    {"0", "7", "0 begin", "0 read", "0 read 1", "0 own 1", "0 write 1", "0 loaded 1", "0 stored 1", "0 own", "0 moved", "0 committed", "0 ", "0 begin "},
		"too many parts":   {"0 begin 0 0", "0 read 1 1 1", "0 own 1 1 1", "0 write 1 1 0", "0 moved 2 2", "0 locked 0", "0 locked 1", "0 committed 1 1", "0 stale 0", "0 aborted 0", "0 failed 4 4", "0 loaded 1 1 1", "0 stored 1 1 1", "0 halted 0", "0 halted halted", "0 begin 0 ;"},
		"other separators": {"0,begin,0", "0:begin:0", "0 begin 0,0 halted", "0 begin 0\v", "0\u00a0begin\u00a00", "0 begin\u20030", "\xff", "0 \xffbegin 0", "\ufeff0 begin 0"},
	} {
		for _, line := range lines {
			refuses(t, line+"\n", 0)
			refuses(t, "0 begin 0\n"+line+"\n", 1)
			refuses(t, "0 begin 0\n3 own 7 9\n7 halted\n"+line+"\n0 halted\n", 3)
			refuses(t, line+"\n"+line+"\n", 0)
			if line != "" {
				refuses(t, line, 0)
				refuses(t, "1 stale\n"+line, 1)
			}
			if _, ok := modelRead(line + "\n"); ok {
				t.Errorf("%s: the model reads %q", what, line)
			}
		}
	}
}

// P13.4: no byte 10 at the end, at whatever line, and bytes 10 that end nothing.
func TestParseOfEnds(t *testing.T) {
	for _, e := range []api.Event{ev(0, api.Begin, 0), own(3, 7, 9), ev(7, api.Locked), ev(1, api.Failed, 5)} {
		line := modelLine(e)
		refuses(t, line, 0)
		refuses(t, line+"\n"+line, 1)
		refuses(t, line+"\n"+line+"\n"+line, 2)
		refuses(t, line+line+"\n", 0)
		refuses(t, line+"\n\n", 1)
		refuses(t, "\n"+line+"\n", 0)
		refuses(t, line+"\n\n"+line+"\n", 1)
		refuses(t, line+"\r\n", 0)
		refuses(t, line+"\x00\n", 0)
		refuses(t, line+"\n ", 1)
		for cut := 1; cut <= len(line); cut++ {
			refuses(t, line[:cut], 0)
			refuses(t, line+"\n"+line[:cut], 1)
		}
	}
	refuses(t, strings.Repeat("0 halted\n", 1<<16)+"\n", 1<<16)
	refuses(t, "0 begin "+strings.Repeat("0", 1<<16)+"\n", 0)
	refuses(t, strings.Repeat("7", 1<<16)+" begin 0\n", 0)
	refuses(t, strings.Repeat(" ", 1<<16), 0)
	refuses(t, "0 halted\n"+strings.Repeat("x", 1<<16), 1)
}

// P13.4: all lines of up to four parts out of those at which something changes.
func TestParseOfParts(t *testing.T) {
	parts := []string{"", "0", "1", "2", "4", "7", "8", "00", "18446744073709551614", "18446744073709551616", "begin", "read", "own", "write", "moved", "locked", "committed", "stale", "aborted", "failed", "loaded", "stored", "halted", "x"}
	read := 0
	var grow func(line string, left int)
	grow = func(line string, left int) {
		for _, p := range parts {
			next := line + p
			if e, ok := modelRead(next + "\n"); ok {
				parses(t, next+"\n", []api.Event{e})
				read++
			} else {
				refuses(t, next+"\n", 0)
			}
			if left > 1 {
				grow(next+" ", left-1)
			}
		}
	}
	grow("", 4)
	if read < 1000 {
		t.Errorf("%d lines were read", read)
	}
}

// P13.4, P13.5: texts that are changed by a byte or cut; what is read is written as it was.
func TestParseOfChanged(t *testing.T) {
	d := drawn(5)
	good := 0
	for range 30000 {
		var h []api.Event
		for range d.below(4) {
			h = append(h, d.event(8, uint64(d.below(3))))
		}
		b := []byte(modelText(h))
		for range d.below(3) {
			at := d.below(len(b) + 1)
			c := " \n0123456789abeghlmortw"[d.below(22)]
			switch d.below(3) {
			case 0:
				b = slices.Insert(b, at, c)
			case 1:
				if at < len(b) {
					b[at] = c
				}
			case 2:
				b = b[:max(at, len(b)-3)]
			}
		}
		text := string(b)
		got, n, err := Parse(text)
		want, line, wantErr := modelParse(text)
		if !slices.Equal(got, want) || n != line || err != wantErr {
			t.Fatalf("Parse(%q) answers %v, %d, %v, not %v, %d, %v", text, got, n, err, want, line, wantErr)
		}
		if err != api.OK {
			continue
		}
		good++
		if back, err := Text(got); back != text || err != api.OK {
			t.Fatalf("Text of Parse(%q) answers %q, %v", text, back, err)
		}
	}
	if good < 5000 {
		t.Errorf("%d texts were read", good)
	}
}
