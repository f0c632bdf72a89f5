package trace

import (
	"math"
	"reflect"
	"slices"
	"strings"
	"testing"

	"seedbed/api"
)

func thrown(text string) api.Fault { return api.Fault{Kind: api.FThrow, Text: text} }

func number(n int) api.Value { return api.Value{Kind: api.KInt, N: n} }

// emit is a valid event.
func emit(at, task, n int) api.Event {
	return api.Event{At: at, Task: task, Kind: api.VEmit, V: number(n)}
}

// invalid are events each of which is not valid in one way.
func invalid() []api.Event {
	var list []api.Event
	change := func(to func(e *api.Event)) {
		e := emit(3, 1, 5)
		to(&e)
		list = append(list, e)
	}
	for _, n := range []int{-1, api.MaxTime + 1, math.MaxInt, math.MinInt} {
		change(func(e *api.Event) { e.At = n })
	}
	for _, n := range []int{-1, api.MaxTasks + 1, math.MaxInt, math.MinInt} {
		change(func(e *api.Event) { e.Task = n })
	}
	for _, n := range []int{0, -1, api.VLeft + 1, math.MaxInt, math.MinInt} {
		change(func(e *api.Event) { e.Kind = n })
	}
	for _, n := range []int{-2, api.MaxTime + 1, math.MaxInt, math.MinInt} {
		change(func(e *api.Event) { e.N = n })
		change(func(e *api.Event) { e.M = n })
	}
	for _, v := range []api.Value{{N: 1}, {S: "a"}, number(api.MaxInt + 1), number(-api.MaxInt - 1), {Kind: api.KInt, S: "a"}, {Kind: api.KBool, N: 2}, {Kind: api.KText, S: "\n"}, {Kind: api.KText, N: 1}, {Kind: api.KText, S: strings.Repeat("a", 61)}, {Kind: api.KChan}, {Kind: api.KTask, N: -1}, {Kind: api.KLock, N: 1, S: "a"}, {Kind: 7}, {Kind: -1}, {Kind: math.MaxInt}} {
		change(func(e *api.Event) { e.V = v })
	}
	for _, f := range []api.Fault{{Kind: 3}, {Kind: -1}, {Text: "a"}, {Kind: api.FCancel, Text: "a"}, thrown("\x7f"), thrown(strings.Repeat("a", 61))} {
		change(func(e *api.Event) { e.Fault = f })
	}
	return list
}

// scene is an event and its line.
type scene struct {
	line string
	e    api.Event
}

// scenes are events of all kinds, at all limits, with all kinds of values and faults.
func scenes() []scene {
	list := []scene{
		{`3 1 emit 0 0 5 -`, emit(3, 1, 5)},
		{`0 2 end 0 0 _ throw "x"`, api.Event{Task: 2, Kind: api.VEnd, Fault: thrown("x")}},
		{`1000000000000 64 open 1000000000000 -1 -1000000000000 cancel`, api.Event{At: api.MaxTime, Task: api.MaxTasks, Kind: api.VOpen, N: api.MaxTime, M: -1, V: number(-api.MaxInt), Fault: api.Fault{Kind: api.FCancel}}},
		{`0 0 late -1 1000000000000 1000000000000 -`, api.Event{Kind: api.VLate, N: -1, M: api.MaxTime, V: number(api.MaxInt)}},
		{`1 1 go 10 0 true -`, api.Event{At: 1, Task: 1, Kind: api.VGo, N: 10, V: api.Value{Kind: api.KBool, N: 1}}},
		{`1 1 go 10 0 false -`, api.Event{At: 1, Task: 1, Kind: api.VGo, N: 10, V: api.Value{Kind: api.KBool}}},
		{`1 1 go 10 0 c1 -`, api.Event{At: 1, Task: 1, Kind: api.VGo, N: 10, V: api.Value{Kind: api.KChan, N: 1}}},
		{`1 1 go 10 0 t20 -`, api.Event{At: 1, Task: 1, Kind: api.VGo, N: 10, V: api.Value{Kind: api.KTask, N: 20}}},
		{`1 1 go 10 0 l1000000000000 -`, api.Event{At: 1, Task: 1, Kind: api.VGo, N: 10, V: api.Value{Kind: api.KLock, N: api.MaxInt}}},
		{`1 1 emit 0 0 "" -`, api.Event{At: 1, Task: 1, Kind: api.VEmit, V: api.Value{Kind: api.KText}}},
		{`1 1 emit 0 0 " \" \\ - \\\" " throw " \" \\ - \\\" "`, api.Event{At: 1, Task: 1, Kind: api.VEmit, V: api.Value{Kind: api.KText, S: ` " \ - \" `}, Fault: thrown(` " \ - \" `)}},
		{`0 0 emit 0 0 "` + strings.Repeat(`\"`, 60) + `" throw "` + strings.Repeat(`\\`, 60) + `"`, api.Event{Kind: api.VEmit, V: api.Value{Kind: api.KText, S: strings.Repeat(`"`, 60)}, Fault: thrown(strings.Repeat(`\`, 60))}},
	}
	for i, name := range kindNames[1:] {
		list = append(list, scene{`7 8 ` + name + ` 1 2 _ throw ""`, api.Event{At: 7, Task: 8, Kind: api.VStart + i, N: 1, M: 2, Fault: thrown("")}})
	}
	return list
}

// TestP251Check checks which events are valid.
func TestP251Check(t *testing.T) {
	for _, x := range scenes() {
		if err := Check(x.e); err != api.OK {
			t.Errorf("Check(%v) = %d", x.e, err)
		}
	}
	for _, e := range append(invalid(), api.Event{}) {
		if err := Check(e); err != api.ErrArg {
			t.Errorf("Check(%v) = %d", e, err)
		}
	}
}

// TestP251Value checks the texts of values.
func TestP251Value(t *testing.T) {
	for want, v := range map[string]api.Value{`_`: {}, `-12`: number(-12), `true`: {Kind: api.KBool, N: 1}, `"a \"\\"`: {Kind: api.KText, S: `a "\`}, `c3`: {Kind: api.KChan, N: 3}, `t4`: {Kind: api.KTask, N: 4}, `l5`: {Kind: api.KLock, N: 5}} {
		if s, err := Value(v); s != want || err != api.OK {
			t.Errorf("Value(%v) = %s, %d, want %s", v, s, err, want)
		}
	}
	for _, e := range invalid() {
		if s, err := Value(e.V); e.V != number(5) && (s != "" || err != api.ErrArg) {
			t.Errorf("Value(%v) = %s, %d", e.V, s, err)
		}
	}
}

// wantText checks that events have a text, and P25.2 for them.
func wantText(t *testing.T, l []api.Event, want string) {
	t.Helper()
	if s, err := Text(l); s != want || err != api.OK {
		t.Errorf("Text(%v) = %q, %d, want %q", l, s, err, want)
	}
	if got, err := Parse(want); !slices.Equal(got, l) || err != api.OK {
		t.Errorf("Parse(%q) = %v, %d, want %v", want, got, err, l)
	}
}

// TestP252Back checks that events have their lines, alone and together.
func TestP252Back(t *testing.T) {
	var all []api.Event
	text := ""
	for _, x := range scenes() {
		wantText(t, []api.Event{x.e}, x.line+"\n")
		all = append(all, x.e)
		text += x.line + "\n"
	}
	wantText(t, all, text)
	wantText(t, nil, "")
}

// TestP251Errors checks which lists have no text and no normal form.
func TestP251Errors(t *testing.T) {
	for _, e := range invalid() {
		for _, l := range [][]api.Event{{e}, {emit(1, 1, 1), e}, {e, emit(1, 1, 1)}} {
			if s, err := Text(l); s != "" || err != api.ErrArg {
				t.Errorf("Text(%v) = %q, %d", l, s, err)
			}
			if form, err := Foata(l); form != nil || err != api.ErrArg {
				t.Errorf("Foata(%v) = %v, %d", l, form, err)
			}
			if Same(l, l) || Same(nil, l) || Same(l, nil) {
				t.Errorf("Same of %v", l)
			}
		}
	}
	many := slices.Repeat([]api.Event{emit(0, 1, 1)}, api.MaxLines+1)
	line := "0 1 emit 0 0 1 -\n"
	wantText(t, many[:api.MaxLines], strings.Repeat(line, api.MaxLines))
	form, err := Foata(many[:api.MaxFoata])
	if len(form) != api.MaxFoata || err != api.OK || !Same(many[:api.MaxFoata], many[:api.MaxFoata]) {
		t.Errorf("%d levels of many, %d", len(form), err)
	}
	for range 2 {
		if s, err := Text(many); s != "" || err != api.ErrFull {
			t.Errorf("Text of too many: %d bytes, %d", len(s), err)
		}
		if form, err := Foata(many[:api.MaxFoata+1]); form != nil || err != api.ErrFull {
			t.Errorf("Foata of too many = %v, %d", form, err)
		}
		if few, many := many[:1], many[:api.MaxFoata+1]; Same(many, many) || Same(few, many) || Same(many, few) {
			t.Error("Same of too many")
		}
		many[0] = api.Event{} // that there are too many is said before that one is not valid
	}
	for _, x := range []struct {
		s    string
		want api.Errno
	}{
		{strings.Repeat(line, api.MaxLines+1), api.ErrFull},
		{strings.Repeat(line, 2*api.MaxLines), api.ErrFull},
		{strings.Repeat(line, api.MaxLines+1) + "x", api.ErrSyntax},
		{strings.Repeat(line, api.MaxLines+1) + "x" + line, api.ErrSyntax},
		{strings.Repeat(line, api.MaxLines) + "\n", api.ErrSyntax},
		{strings.Repeat("\n", api.MaxLines+1), api.ErrSyntax},
	} {
		if l, err := Parse(x.s); l != nil || err != x.want {
			t.Errorf("Parse of %d bytes = %d events, %d, want %d", len(x.s), len(l), err, x.want)
		}
	}
}

// TestP251Syntax checks what is no text of events.
func TestP251Syntax(t *testing.T) {
	const good = "3 1 emit 0 0 5 -\n"
	list := []string{"\n", " ", "x", "3", "3 1 emit 0 0 5 -", good + "\n", "\n" + good, good + " ", " " + good, good[:len(good)-1] + "\r\n", good + "3 1 emit 0 0 5 -", strings.ReplaceAll(good, " ", "  "), strings.ReplaceAll(good, " ", "\t"), good + "\x00", "\xef\xbb\xbf" + good}
	for _, line := range []string{
		"3 1 emit 0 0 5 - ", "3 1 emit 0 0 5 - -", "3 1 emit 0 0 -", "3 1 emit 0 0 5", "1 emit 0 0 5 -", "3 1 emit 0 5 -",
		"03 1 emit 0 0 5 -", "+3 1 emit 0 0 5 -", "-0 1 emit 0 0 5 -", "-1 1 emit 0 0 5 -", "1000000000001 1 emit 0 0 5 -", "99999999999999999999 1 emit 0 0 5 -",
		"3 65 emit 0 0 5 -", "3 -1 emit 0 0 5 -", "3 01 emit 0 0 5 -", "3 x emit 0 0 5 -", "3  emit 0 0 5 -",
		"3 1 Emit 0 0 5 -", "3 1 emits 0 0 5 -", "3 1 emi 0 0 5 -", "3 1  0 0 5 -", "3 1 4 0 0 5 -", "3 1 \"emit\" 0 0 5 -",
		"3 1 emit -2 0 5 -", "3 1 emit 1000000000001 0 5 -", "3 1 emit 0 -2 5 -", "3 1 emit 0 1000000000001 5 -", "3 1 emit -0 0 5 -", "3 1 emit 0 00 5 -", "3 1 emit _ 0 5 -",
		"3 1 emit 0 0 - -", "3 1 emit 0 0 05 -", "3 1 emit 0 0 c0 -", "3 1 emit 0 0 c -", "3 1 emit 0 0 unit -", "3 1 emit 0 0 \"a -", "3 1 emit 0 0 \"\\a\" -", "3 1 emit 0 0 a -", "3 1 emit 0 0 1000000000001 -",
		"3 1 emit 0 0 5 _", "3 1 emit 0 0 5 throw", "3 1 emit 0 0 5 throw ", "3 1 emit 0 0 5 throw x", "3 1 emit 0 0 5 throw 5", "3 1 emit 0 0 5 throw \"x\"\"", "3 1 emit 0 0 5 throw  \"x\"", "3 1 emit 0 0 5 throw \"" + strings.Repeat("x", 61) + "\"", "3 1 emit 0 0 5 cancels", "3 1 emit 0 0 5 cancel -",
	} {
		list = append(list, line+"\n", good+line+"\n", line+"\n"+good)
	}
	for _, s := range list {
		if l, err := Parse(s); l != nil || err != api.ErrSyntax {
			t.Errorf("Parse(%q) = %v, %d", s, l, err)
		}
	}
}

// TestP251Of checks which events are those of a task.
func TestP251Of(t *testing.T) {
	l := []api.Event{emit(1, 1, 1), emit(1, 2, 2), {Task: 1}, {Task: -5}, {Task: 0, Kind: 99}, emit(0, 1, 1)}
	for _, x := range []struct {
		task int
		want []api.Event
	}{{1, []api.Event{l[0], l[2], l[5]}}, {2, l[1:2]}, {0, l[4:5]}, {-5, l[3:4]}, {3, nil}, {math.MaxInt, nil}} {
		if got := Of(l, x.task); !slices.Equal(got, x.want) {
			t.Errorf("Of(%d) = %v, want %v", x.task, got, x.want)
		}
	}
	if got := Of(nil, 0); got != nil {
		t.Errorf("Of(nil) = %v", got)
	}
}

// TestP251Memory checks that results share no memory with arguments or with each other.
func TestP251Memory(t *testing.T) {
	l := []api.Event{emit(1, 3, 1), {Task: 2, Kind: api.VAcquire}, {Task: 1, Kind: api.VAcquire}}
	before := slices.Clone(l)
	form, _ := Foata(l)
	of := Of(l, 3)
	again := reflect.ValueOf(form).Len()
	for _, level := range form {
		clear(level)
		_ = append(level, api.Event{})
	}
	clear(of)
	if other, _ := Foata(l); !slices.Equal(l, before) || len(other) != again || other[0][0] != before[2] || !slices.Equal(Of(l, 3), before[:1]) {
		t.Errorf("%v, %v", l, other)
	}
}
