package colour

import (
	"fmt"
	"slices"
	"strconv"
	"strings"
	"testing"

	"seedbed/api"
	"seedbed/kinds"
	"seedbed/syntax"
)

func parsed(t *testing.T, source string) api.Program {
	t.Helper()
	p, at, err := syntax.Parse(source)
	if err != api.OK {
		t.Fatalf("Parse(%q): %d at %d", source, err, at)
	}
	return p
}

// inContext puts statements into a function f, at the position 1, which has a variable of each kind but of lock, and others that do nothing but what their names say.
func inContext(body string) string {
	return "fn main() { } fn f(n int, b bool, c chan, k task) { " + body + ` } fn hold0(l lock, n int, b bool) { hold l { } }
		fn none() { } fn num() int { return 1; } fn text0() text { return ""; } fn flow0() flow { } fn flow1(n int) flow { } fn one(n int) { }`
}

// wantColour checks the colour of f with some statements.
func wantColour(t *testing.T, body string, want int) {
	t.Helper()
	p := parsed(t, inContext(body))
	got, err := Colours(p)
	if err != api.OK || len(got) != len(p.Funcs) || got[1] != want || got[0] != 0 {
		t.Errorf("Colours of %s = %v, %d, want %d", body, got, err, want)
	}
	quiet, err := Quiet(p, 1)
	if quiet != (want%2 == 0) || err != api.OK {
		t.Errorf("Quiet of %s = %t, %d", body, quiet, err)
	}
}

// colours1 holds the colours of each kind of statement alone: 1 asks, 2 waits, 4 throws, 8 makes tasks.
var colours1 = map[string]int{
	"": 0, "let x = n;": 0, "n = 2;": 0, "if b { }": 0, "if b { } else { }": 0, "while b { }": 0, "while b { break; }": 0, "while b { continue; }": 0, "return;": 0, "try { } finally { }": 0, "try { } catch x { }": 0,
	"let x = now;": 1, "close c;": 1, "emit n;": 1, "cancel k;": 1, "shield { }": 1, "use x = n { }": 1,
	"sleep n;": 3, "yield;": 3,
	"throw \"\";": 4, "none();": 4, "let x = num();": 4, "num();": 4, "one(1);": 4, "let x = text0();": 4,
	"let x = chan 1;": 5, "let x = chan n drop old;": 5, "let x = lock n;": 5,
	"await k;": 7, "let x = await k;": 7, "receive c;": 7, "let x = receive c;": 7, "while b { let x = receive c else break; }": 7, "send c, n;": 7, "scope { }": 7, "scope supervised { }": 7, "scope within n { }": 7,
	"select { receive x from c { } }": 7, "select { send c, n { } }": 7, "select { after n { } }": 7, "select { else { } }": 7,
	"spawn none();": 13, "let x = spawn none();": 13, "spawn num();": 13, "spawn one(n);": 13,
	"each x from flow0() { }": 15, "each x from flow1(n) buffer 1 { }": 15, "each x from flow0() { break; }": 15,
}

// TestP61Statements checks the colours of statements, alone and two together.
func TestP61Statements(t *testing.T) {
	for stmt, want := range colours1 {
		wantColour(t, stmt, want)
		wantColour(t, "if b { "+stmt+" } if b { emit 1; }", want|1)
		wantColour(t, "if b { throw \"\"; } if b { "+stmt+" }", want|4)
	}
}

// TestP61Others checks the colours of holds and flows, which f can't have.
func TestP61Others(t *testing.T) {
	p := parsed(t, "fn main() { } fn a(l lock) { hold l { } } fn b() flow { } fn c() flow { produce 1; } fn d() flow { throw \"\"; } fn e() flow { yield; } fn g() flow { return; } fn h() flow { none(); } fn none() { }")
	if got, err := Colours(p); !slices.Equal(got, []int{0, 7, 1, 7, 5, 3, 1, 5, 0}) || err != api.OK {
		t.Errorf("Colours = %v, %d", got, err)
	}
	for fn, want := range []bool{true, false, false, false, false, false, false, false, true} {
		if got, err := Quiet(p, fn); got != want || err != api.OK {
			t.Errorf("Quiet(%d) = %t, %d", fn, got, err)
		}
	}
}

// places holds blocks of statements with their own colours; @ stands for statements.
var places = map[string]int{
	"if b { @ }": 0, "if b { } else { @ }": 0, "if b { } else if b { @ }": 0, "if b { } else if b { } else { @ }": 0, "while b { @ }": 0, "while b { while b { @ } }": 0, "try { @ } finally { }": 0, "try { } catch v { @ }": 0, "try { } finally { @ }": 0, "try { } catch v { } finally { @ }": 0, "try { @ } catch v { }": 0,
	"return; @": 0, "while true { } @": 0, "while false { @ }": 0, "if false { @ }": 0, "while b { break; @ }": 0, "while b { continue; @ }": 0, "throw \"\"; @": 4,
	"shield { @ }": 1, "use v = 1 { @ }": 1, "scope { @ }": 7, "select { receive v from c { @ } }": 7, "select { send c, 1 { @ } }": 7, "select { after 1 { @ } }": 7, "select { else { @ } }": 7, "select { after 1 { } else { @ } }": 7, "each v from flow0() { @ }": 15,
}

// TestP61Places checks that statements count wherever they stand, reached or not, caught or not.
func TestP61Places(t *testing.T) {
	for place, own := range places {
		for stmt, colour := range colours1 {
			wantColour(t, strings.Replace(place, "@", stmt, 1), own|colour)
		}
	}
}

// TestP61Expressions checks which operators can fail, in all statements and cases.
func TestP61Expressions(t *testing.T) {
	for e, fails := range map[string]int{
		"1": 0, "n": 0, "(n)": 0, "-1": 4, "-n": 4, "n + 1": 4, "1 - n": 4, "n * n": 4, "n / 2": 4, "n % 2": 4, "--n": 4, "1 * (2 - 3)": 4,
	} {
		for stmt, own := range map[string]int{
			"let x = @;": 0, "n = @;": 0, "emit @;": 1, "sleep @;": 3, "use x = @ { }": 1, "if @ == 1 { }": 0, "while n < @ { }": 0, "let x = !(b && (n > @ || b));": 0, "if b { } else if @ <= n { }": 0,
			"one(@);": 4, "spawn one(@);": 13, "each x from flow1(@) { }": 15, "send c, @;": 7, "scope within @ { }": 7, "select { after @ { } }": 7, "select { send c, @ { } }": 7, "let x = chan @;": 5, "let x = lock @;": 5,
		} {
			wantColour(t, strings.Replace(stmt, "@", e, 1), own|fails)
		}
	}
	for e, fails := range map[string]int{"true": 0, "!b": 0, "b || b && !b": 0, "n == n": 0, "k != k && c == c": 0, "1 < n": 0, "n <= 1": 0, "n > n": 0, "\"a\" >= \"b\"": 0, "n == 1 != b": 0, "\"a\" + \"b\" == \"ab\"": 4, "!(-n == 1)": 4, "b && n + 1 == 2": 4} {
		wantColour(t, "let x = "+e+";", fails)
		wantColour(t, "while "+e+" { }", fails)
		wantColour(t, "emit "+e+";", fails|1)
	}
	for source, want := range map[string]int{"return x;": 0, "return -x;": 4, "if x == 1 { return x + 1; } return 1;": 4} {
		if got, err := Colours(parsed(t, "fn main() { } fn f(x int) int { "+source+" }")); !slices.Equal(got, []int{0, want}) || err != api.OK {
			t.Errorf("Colours of %s = %v, %d", source, got, err)
		}
	}
	for source, want := range map[string]int{"throw x;": 4, "throw x + x;": 4, "emit x + x;": 5} {
		if got, err := Colours(parsed(t, "fn main() { } fn f(x text) { "+source+" }")); !slices.Equal(got, []int{0, want}) || err != api.OK {
			t.Errorf("Colours of %s = %v, %d", source, got, err)
		}
	}
}

// wantAll checks what all functions say of a program.
func wantAll(t *testing.T, source string, colours []int, calls, reached, rings [][]int, levels []int) {
	t.Helper()
	p := parsed(t, source)
	got, err := Colours(p)
	wantSame(t, source, "Colours", got, err, colours)
	lists, err := Calls(p)
	wantSame(t, source, "Calls", lists, err, calls)
	lists, err = Rings(p)
	wantSame(t, source, "Rings", lists, err, rings)
	got, err = Levels(p)
	wantSame(t, source, "Levels", got, err, levels)
	lists = nil
	for fn := range p.Funcs {
		list, err := Reached(p, fn)
		if err != api.OK {
			t.Errorf("%s: Reached(%d): %d", source, fn, err)
		}
		lists = append(lists, list)
		quiet, err := Quiet(p, fn)
		wantSame(t, source, "Quiet", quiet, err, colours[fn]%2 == 0)
	}
	wantSame(t, source, "Reached", lists, api.OK, reached)
}

// wantSame compares by what is printed, as an empty list can be nil.
func wantSame(t *testing.T, source, what string, got any, err api.Errno, want any) {
	t.Helper()
	if err != api.OK || fmt.Sprint(got) != fmt.Sprint(want) {
		t.Errorf("%s: %s = %v, %d, want %v", source, what, got, err, want)
	}
}

// TestP62Calls checks calls, what is reached, rings, levels, and which colours calls hand on.
func TestP62Calls(t *testing.T) {
	type lists = [][]int
	wantAll(t, "fn main() { }", []int{0}, lists{nil}, lists{nil}, nil, []int{1})
	wantAll(t, "fn main() { f(); } fn f() { emit 1; }", []int{5, 1}, lists{{1}, nil}, lists{{1}, nil}, nil, []int{2, 1})
	wantAll(t, "fn main() { main(); }", []int{4}, lists{{0}}, lists{{0}}, lists{{0}}, []int{-1})
	wantAll(t, "fn main() { spawn main(); }", []int{13}, lists{{0}}, lists{{0}}, nil, []int{1})
	wantAll(t, "fn main() { } fn f() flow { each x from f() { } }", []int{0, 15}, lists{nil, {1}}, lists{nil, {1}}, nil, []int{1, 1})
	wantAll(t, "fn main() { } fn f() { g(); } fn g() { f(); }", []int{0, 4, 4}, lists{nil, {2}, {1}}, lists{nil, {1, 2}, {1, 2}}, lists{{1, 2}}, []int{1, -1, -1})
	wantAll(t, "fn main() { f(); } fn f() { g(); } fn g() { f(); yield; }", []int{7, 7, 7}, lists{{1}, {2}, {1}}, lists{{1, 2}, {1, 2}, {1, 2}}, lists{{1, 2}}, []int{-1, -1, -1})
	wantAll(t, "fn main() { } fn f() { spawn g(); } fn g() { f(); }", []int{0, 13, 13}, lists{nil, {2}, {1}}, lists{nil, {1, 2}, {1, 2}}, nil, []int{1, 1, 2})
	wantAll(t, "fn c() { b(); } fn b() { a(); } fn a() { yield; } fn main() { c(); a(); c(); }", []int{7, 7, 3, 7}, lists{{1}, {2}, nil, {0, 2}}, lists{{1, 2}, {2}, nil, {0, 1, 2}}, nil, []int{3, 2, 1, 4})
	wantAll(t, "fn a() { b(); } fn b() { c(); } fn c() { a(); } fn d() { d(); } fn e() { e(); b(); } fn main() { f(); } fn f() { }", []int{4, 4, 4, 4, 4, 4, 0},
		lists{{1}, {2}, {0}, {3}, {1, 4}, {6}, nil}, lists{{0, 1, 2}, {0, 1, 2}, {0, 1, 2}, {3}, {0, 1, 2, 4}, {6}, nil}, lists{{0, 1, 2}, {3}, {4}}, []int{-1, -1, -1, -1, -1, 2, 1})
	wantAll(t, "fn a() { d(); } fn b() { c(); } fn c() { b(); a(); } fn d() { a(); } fn main() { }", []int{4, 4, 4, 4, 0}, lists{{3}, {2}, {0, 1}, {0}, nil}, lists{{0, 3}, {0, 1, 2, 3}, {0, 1, 2, 3}, {0, 3}, nil}, lists{{0, 3}, {1, 2}}, []int{-1, -1, -1, -1, 1})
	wantAll(t, "fn main() { spawn f(); each x from q() { g(); } } fn f() { yield; } fn g() { } fn q() flow { f(); spawn g(); }", []int{15, 3, 0, 15}, lists{{1, 2, 3}, nil, nil, {1, 2}}, lists{{1, 2, 3}, nil, nil, {1, 2}}, nil, []int{2, 1, 1, 2})
	wantAll(t, "fn main() { spawn f(); } fn f() { f(); }", []int{13, 4}, lists{{1}, {1}}, lists{{1}, {1}}, lists{{1}}, []int{1, -1})
}

// TestP61HandedOn checks which colours a direct call hands on, and that a spawn and an each hand on none.
func TestP61HandedOn(t *testing.T) {
	for stmt, colour := range colours1 {
		body := "fn main() { } fn f(n int, b bool, c chan, k task) { " + stmt + " } fn none() { } fn num() int { return 1; } fn text0() text { return \"\"; } fn flow0() flow { } fn flow1(n int) flow { } fn one(n int) { }"
		for calls, want := range map[string]int{"f(1, true, c, k);": colour | 4, "spawn f(1, true, c, k);": 13, "if true { f(1, true, c, k); }": colour | 4, "if false { while true { } f(1, true, c, k); }": colour | 4, "try { f(1, true, c, k); } catch x { }": colour | 4} {
			got, err := Colours(parsed(t, body+" fn call0(c chan, k task) { "+calls+" } fn call1(c chan, k task) { call0(c, k); }"))
			if err != api.OK || got[8] != want || got[9] != want|4 || got[1] != colour {
				t.Errorf("Colours of %s of %s = %v, %d", calls, stmt, got, err)
			}
		}
	}
	got, err := Colours(parsed(t, "fn main() { each x from f() { } } fn f() flow { throw \"\"; } fn g() { main(); }"))
	if !slices.Equal(got, []int{15, 5, 15}) || err != api.OK {
		t.Errorf("Colours of an each = %v, %d", got, err)
	}
}

// TestP62Places checks that calls are found wherever they stand, each once.
func TestP62Places(t *testing.T) {
	at := map[string]int{"none();": 3, "let x = num();": 4, "spawn one(n);": 8, "let x = spawn num();": 4, "each x from flow1(1) { }": 7}
	for place := range places {
		for stmt, want := range at {
			p := parsed(t, inContext(strings.Replace(place, "@", "if b { "+stmt+" } if b { "+stmt+" }", 1)))
			wants := []int{want}
			if strings.Contains(place, "flow0") {
				wants = []int{6, want}
				slices.Sort(wants)
			}
			calls, err := Calls(p)
			if err != api.OK || !slices.Equal(calls[1], wants) {
				t.Errorf("Calls of %s in %s = %v, %d", stmt, place, calls, err)
			}
			reached, err := Reached(p, 1)
			if err != api.OK || !slices.Equal(reached, wants) {
				t.Errorf("Reached of %s in %s = %v, %d", stmt, place, reached, err)
			}
		}
	}
}

// TestP61Heights checks how deep uses and holds are nested.
func TestP61Heights(t *testing.T) {
	for body, want := range map[string]int{
		"": 0, "yield;": 0, "use x = 1 { }": 1, "hold l { }": 1, "use x = 1 { } use x = 1 { }": 1, "use x = 1 { hold l { } }": 2, "hold l { hold l { } hold l { } }": 2, "use x = 1 { use y = 2 { use z = 3 { } } }": 3, "use x = 1 { use y = 2 { } } hold l { }": 2, "hold l { } use x = 1 { use y = 2 { } }": 2, "use x = 1 { hold l { } use y = 2 { hold l { } } hold l { } }": 3,
		"scope { shield { } }": 0, "shield { use x = 1 { scope { hold l { } } } }": 2, "return; use x = 1 { }": 1, "if false { hold l { } }": 1, "use x = 1 { g(l); }": 1, "g(l);": 0, "spawn g(l);": 0, "hold l { hold l { hold l { hold l { hold l { hold l { hold l { hold l { hold l { } } } } } } } } }": 9,
	} {
		for place := range places {
			source := "fn main() { } fn f(l lock, b bool, c chan) { " + strings.Replace(place, "@", body, 1) + " } fn g(l lock) { hold l { hold l { use x = 1 { hold l { } } } } } fn flow0() flow { }"
			got, err := Heights(parsed(t, source))
			wantSame(t, source, "Heights", got, err, []int{0, want + strings.Count(place, "use "), 4, 0})
		}
	}
}

// wantErrors checks that all functions have an error, wherever they look.
func wantErrors(t *testing.T, p api.Program, want api.Errno) {
	t.Helper()
	for what, look := range map[string]func(api.Program) ([]int, api.Errno){"Colours": Colours, "Heights": Heights, "Levels": Levels} {
		if got, err := look(p); len(got) != 0 || err != want {
			t.Errorf("%s = %v, %d, want %d", what, got, err, want)
		}
	}
	for what, look := range map[string]func(api.Program) ([][]int, api.Errno){"Calls": Calls, "Rings": Rings} {
		if got, err := look(p); len(got) != 0 || err != want {
			t.Errorf("%s = %v, %d, want %d", what, got, err, want)
		}
	}
	for _, fn := range []int{0, 1, -1, 99} {
		if got, err := Reached(p, fn); len(got) != 0 || err != want {
			t.Errorf("Reached(%d) = %v, %d, want %d", fn, got, err, want)
		}
		if got, err := Quiet(p, fn); got || err != want {
			t.Errorf("Quiet(%d) = %t, %d, want %d", fn, got, err, want)
		}
	}
}

// TestErrors checks the errors of kinds.Check, of all functions.
func TestErrors(t *testing.T) {
	for want, source := range map[api.Errno]string{
		api.ErrTwice: "fn main() { } fn main() { }", api.ErrName: "fn main() { f(); }", api.ErrFlow: "fn main() flow { }", api.ErrCount: "fn main(x int) { }", api.ErrPlace: "fn main() { break; }", api.ErrKind: "fn main() { sleep true; }", api.ErrEnd: "fn main() int { }",
		api.ErrFull: "fn main() { " + strings.Repeat("use x = 1 { } ", api.MaxVars+1) + "}",
	} {
		wantErrors(t, parsed(t, source), want)
	}
	ring := []api.Stmt{{Op: api.SShield}}
	ring[0].Body = ring
	for _, p := range []api.Program{
		{}, {Funcs: []api.Func{{}}}, {Funcs: []api.Func{{Name: "main", Body: []api.Stmt{{}}}}}, {Funcs: []api.Func{{Name: "main", Body: []api.Stmt{{Op: api.SProduce + 1}}}}}, {Funcs: []api.Func{{Name: "main", Body: []api.Stmt{{Op: -1}}}}}, {Funcs: []api.Func{{Name: "main", Body: ring}}}, {Funcs: make([]api.Func, 1<<16)},
		{Funcs: []api.Func{{Name: "main", Body: []api.Stmt{{Op: api.SCall, Index: 1 << 40}}}}},
	} {
		wantErrors(t, p, api.ErrArg)
	}
	p := parsed(t, inContext(""))
	for _, fn := range []int{-1, 9, 16, 1<<63 - 1, -1 << 63} {
		if got, err := Reached(p, fn); len(got) != 0 || err != api.ErrArg {
			t.Errorf("Reached(%d) = %v, %d", fn, got, err)
		}
		if got, err := Quiet(p, fn); got || err != api.ErrArg {
			t.Errorf("Quiet(%d) = %t, %d", fn, got, err)
		}
	}
}

// TestSlots checks that programs with slots are taken, whatever the slots are.
func TestSlots(t *testing.T) {
	const source = "fn main() { g(); f(); } fn f() { use x = 1 { spawn g(); } } fn g() { }"
	p := parsed(t, source)
	q, err := kinds.Check(p)
	if err != api.OK {
		t.Fatalf("Check: %d", err)
	}
	wrong, _ := syntax.Clone(p)
	wrong.Funcs[0].Vars, wrong.Funcs[0].Body[0].Index, wrong.Funcs[0].Body[1].Index, wrong.Funcs[1].Body[0].Slot = -1, 1, 1<<60, -3
	for _, r := range []api.Program{p, q, wrong} {
		colours, err := Colours(r)
		wantSame(t, source, "Colours", colours, err, []int{13, 13, 0})
		calls, err := Calls(r)
		wantSame(t, source, "Calls", calls, err, [][]int{{1, 2}, {2}, nil})
		reached, err := Reached(r, 0)
		wantSame(t, source, "Reached", reached, err, []int{1, 2})
		levels, err := Levels(r)
		wantSame(t, source, "Levels", levels, err, []int{2, 1, 1})
		heights, err := Heights(r)
		wantSame(t, source, "Heights", heights, err, []int{0, 1, 0})
	}
}

// TestMemory checks that arguments are not changed, and that results share no memory.
func TestMemory(t *testing.T) {
	const source = "fn main() { f(); } fn f() { g(); main(); } fn g() { f(); }"
	p := parsed(t, source)
	for _, look := range []func() ([][]int, api.Errno){func() ([][]int, api.Errno) { return Calls(p) }, func() ([][]int, api.Errno) { return Rings(p) }} {
		lists, _ := look()
		for _, list := range lists {
			for i := range list {
				list[i] = -9
			}
			_ = append(list, -9)
		}
		if again, _ := look(); slices.Equal(again[0], lists[0]) || slices.Contains(again[0], -9) {
			t.Errorf("results share memory: %v", again)
		}
	}
	lists, _ := Calls(p)
	_ = append(lists[0], -9)
	if !slices.Equal(lists[1], []int{0, 2}) || !syntax.Same(p, parsed(t, source)) {
		t.Errorf("parts of a result share memory: %v", lists)
	}
}

// TestP62Many checks programs with as many functions as there can be.
func TestP62Many(t *testing.T) {
	chain, ring := "fn main() { f1(); } ", "fn main() { f1(); } "
	for i := 1; i < api.MaxFuncs; i++ {
		next := "f" + strconv.Itoa(i+1)
		name := "fn f" + strconv.Itoa(i)
		if i == api.MaxFuncs-1 {
			chain += name + "() { emit 1; } "
			ring += name + "() { main(); } "
		} else {
			chain += name + "() { " + next + "(); } "
			ring += name + "() { " + next + "(); } "
		}
	}
	levels, err := Levels(parsed(t, chain))
	if err != api.OK || levels[0] != api.MaxFuncs || levels[api.MaxFuncs-1] != 1 {
		t.Errorf("Levels of a chain = %v, %d", levels, err)
	}
	colours, err := Colours(parsed(t, chain))
	if err != api.OK || colours[0] != 5 || colours[api.MaxFuncs-1] != 1 {
		t.Errorf("Colours of a chain = %v, %d", colours, err)
	}
	rings, err := Rings(parsed(t, ring))
	if err != api.OK || len(rings) != 1 || len(rings[0]) != api.MaxFuncs || !slices.IsSorted(rings[0]) {
		t.Errorf("Rings of a ring = %v, %d", rings, err)
	}
	reached, err := Reached(parsed(t, ring), api.MaxFuncs-1)
	if err != api.OK || len(reached) != api.MaxFuncs {
		t.Errorf("Reached of a ring = %v, %d", reached, err)
	}
}
