package names

import (
	"slices"
	"strconv"
	"strings"
	"testing"

	"seedbed/api"
	"seedbed/shape"
	"seedbed/syntax"
)

func parsed(t *testing.T, source string) api.Program {
	t.Helper()
	p, at, err := syntax.Parse(source)
	if err != api.OK {
		t.Fatalf("Parse(%q): %d at %d", source, err, at)
	}
	return p
}

// described writes what Resolve has filled in in a function: what mentions a variable with its slot, what calls a function with its index.
func described(f api.Func) string {
	var list []string
	add := func(name string, n int) {
		list = append(list, name+strconv.Itoa(n))
	}
	for s := range shape.Stmts(f.Body) {
		for e := range shape.Exprs(&api.Stmt{Args: s.Args}) {
			if e.Op == api.EName {
				add(e.S, e.Slot)
			}
		}
		if s.Fn != "" {
			add(s.Fn+"@", s.Index)
		}
		if s.Name != "" {
			add(s.Name+"=", s.Slot)
		}
		for _, k := range s.Cases {
			for e := range shape.Exprs(&api.Stmt{Args: k.Args}) {
				if e.Op == api.EName {
					add(e.S, e.Slot)
				}
			}
			if k.Name != "" {
				add(k.Name+"=", k.Slot)
			}
		}
	}
	return strings.Join(list, " ")
}

// TestP41Slots checks the slots, the indices and the numbers of variables.
func TestP41Slots(t *testing.T) {
	for _, c := range []struct {
		source string // the last function is looked at
		want   string
		vars   string
	}{
		{"fn main() { }", "", ""},
		{"fn main() { let x = 1; if true { let y = x; } let y = 2; }", "x=0 x0 y=1 y=2", "x y y"},
		{"fn main() { } fn f(x int, y bool) { let z = x; z = y; emit x + y * z; }", "x0 z=2 y1 z=2 x0 y1 z2", "x y z"},
		{"fn main() { f(1); } fn f(x int) { let y = f2(x); spawn f(y); let z = spawn main(); f(z); } fn f2(a int) int { let b = 1; f(b); main(); return a; }", "b=1 b1 f@1 main@0 a0", "a b"},
		{"fn f(x int) { } fn main() { let x = 1; f(x); let y = g(); spawn f(y); let z = spawn f(x); spawn main(); each v from h(x, y) { emit v; } } fn g() int { return 1; } fn h(a int, b int) flow { each v from h(b, a) { produce v + a; } main(); }", "b1 a0 h@3 v=2 v2 a0 main@1", "a b v"},
		{"fn main() { let a = chan 1; let b = receive a; let c = lock b; let d = now; let e = await a; let f = spawn main(); send a, b; emit f; }", "a=0 a0 b=1 b1 c=2 d=3 a0 e=4 main@0 f=5 a0 b1 f5", "a b c d e f"},
		{"fn main() { if true { let x = 1; } else { let x = 2; emit x; } while true { let x = 3; emit x; } scope { let x = 4; emit x; } shield { let x = 5; emit x; } let x = 6; emit x; }", "x=0 x=1 x1 x=2 x2 x=3 x3 x=4 x4 x=5 x5", "x x x x x x"},
		{"fn main() { let n = 1; use x = n { emit x; } use x = 2 { let y = x; } hold n { let x = 3; emit x; } let x = n; }", "n=0 n0 x=1 x1 x=2 x2 y=3 n0 x=4 x4 n0 x=5", "n x x y x x"},
		{"fn main() { try { let x = 1; emit x; } catch x { let y = x; } finally { let x = 2; let y = x; } try { let y = 3; } finally { let x = 4; } try { } catch z { let x = z; } }", "", "x x y x y y x z x"},
		{"fn main() { let c = chan 1; select { receive x from c { emit x; } send c, 1 { let x = 2; emit x; } receive x from c { let y = x; } else { let y = 4; } } select { after 1 { let x = 3; } } let x = 5; emit x; }", "", "c x x x y y x x"},
		{"fn main() { each x from f() { let y = x; } each x from f() { } let x = 1; } fn f() flow { let x = 1; each y from f() { produce y; } produce x; let y = 2; emit y; }", "x=0 f@1 y=1 y1 x0 y=2 y2", "x y y"},
		{"fn main() { let x = 1; while x < 2 { x = x + 1; if x == 1 { break; } else { x = 3; continue; } let c = chan x; let y = receive c else break; } }", "x=0 x0 x0 x=0 x0 x=0 x0 c=1 c1 y=2", "x c y"},
		{"fn main() { if true { } else if false { let x = 1; } else if true { let x = 2; emit x; } let x = 3; }", "x=0 x=1 x1 x=2", "x x x"},
		{"fn main() { let main = 1; let f = main; f(f); main(); } fn f(f int) { f(f); f = 1; emit f; }", "f0 f@1 f=0 f0", "f"},
	} {
		p := parsed(t, c.source)
		last := len(p.Funcs) - 1
		q, err := Resolve(p)
		if err != api.OK {
			t.Errorf("Resolve of %s: %d", c.source, err)
			continue
		}
		vars, err := Vars(p, last)
		if f := q.Funcs[last]; c.want != "" && described(f) != c.want || f.Vars != len(vars) {
			t.Errorf("Resolve of %s: %s, %d variables, want %s", c.source, described(f), f.Vars, c.want)
		}
		if strings.Join(vars, " ") != c.vars || err != api.OK {
			t.Errorf("Vars of %s: %v, %d, want %s", c.source, vars, err, c.vars)
		}
		wantOthersUnchanged(t, p, q)
	}
}

// wantOthersUnchanged checks that a resolved program is the program, but for its slots.
func wantOthersUnchanged(t *testing.T, p, q api.Program) {
	t.Helper()
	bare, err := Strip(q)
	if err != api.OK || !syntax.Same(p, bare) {
		t.Errorf("Strip of Resolve = %v, %d, want %v", bare, err, p)
	}
}

// TestP41TrySlots checks where the slots of a try and a select are.
func TestP41TrySlots(t *testing.T) {
	p := parsed(t, "fn main() { let c = chan 1; try { let x = 1; emit x; } catch y { emit y; } finally { let x = 2; emit x; } select { send c, 1 { let v = 3; } receive x from c { emit x; } receive v from c { emit v; } } }")
	q, err := Resolve(p)
	if err != api.OK {
		t.Fatalf("Resolve: %d", err)
	}
	body := q.Funcs[0].Body
	try, cases := body[1], body[2].Cases
	got := []int{try.Body[0].Slot, try.Body[1].Args[0].Slot, try.Slot, try.Other[0].Args[0].Slot, try.Last[0].Slot, try.Last[1].Args[0].Slot, cases[0].Slot, cases[0].Body[0].Slot, cases[1].Slot, cases[1].Body[0].Args[0].Slot, cases[2].Slot, cases[2].Body[0].Args[0].Slot, body[2].Slot, q.Funcs[0].Vars}
	if want := []int{1, 1, 2, 2, 3, 3, 0, 4, 5, 5, 6, 6, 0, 7}; !slices.Equal(got, want) {
		t.Errorf("slots %v, want %v", got, want)
	}
}

// wantError checks that all functions have an error of Resolve.
func wantError(t *testing.T, p api.Program, want api.Errno) {
	t.Helper()
	if q, err := Resolve(p); len(q.Funcs) != 0 || err != want {
		t.Errorf("Resolve = %v, %d, want %d", q, err, want)
	}
	for _, fn := range []int{0, -1, 99} {
		if vars, err := Vars(p, fn); len(vars) != 0 || err != want {
			t.Errorf("Vars = %v, %d, want %d", vars, err, want)
		}
		if q, err := Rename(p, fn, "x", "let"); len(q.Funcs) != 0 || err != want {
			t.Errorf("Rename = %v, %d, want %d", q, err, want)
		}
		if name, err := Free(p, fn, "let it be"); name != "" || err != want {
			t.Errorf("Free = %q, %d, want %d", name, err, want)
		}
	}
	if at, err := Index(p, "none"); at != 0 || err != want {
		t.Errorf("Index = %d, %d, want %d", at, err, want)
	}
}

func wantErrors(t *testing.T, want api.Errno, sources ...string) {
	t.Helper()
	for _, source := range sources {
		p := parsed(t, source)
		if _, err := Resolve(p); err != want {
			t.Errorf("Resolve of %s: %d, want %d", source, err, want)
		}
		wantError(t, p, want)
	}
}

// inMain puts statements into main, beside a function, a function with a result and a flow.
func inMain(lines ...string) []string {
	for i, line := range lines {
		lines[i] = "fn main() { " + line + " } fn f(a int) { } fn g() int { return 1; } fn h(a int) flow { }"
	}
	return lines
}

// TestP41Heads checks the errors of functions as a whole, and their order.
func TestP41Heads(t *testing.T) {
	wantErrors(t, api.ErrTwice, "fn main() { } fn main() { }", "fn f() { } fn main() { } fn f() { }", "fn f() { } fn f() { }", "fn main() flow { } fn main() flow { }", "fn main(x int) { } fn f() { } fn f() { }", "fn main() { emit x; } fn f() { } fn f() flow { }", "fn f() { } fn g() { } fn g() { } fn main() flow { }")
	wantErrors(t, api.ErrName, "fn f() { }", "fn f() { let x = 1; let x = 2; }", "fn maine() { } fn mai(x int) flow { }", "fn f(main int) { let main2 = main; }")
	wantErrors(t, api.ErrFlow, "fn main() flow { }", "fn main(x int) flow { }", "fn f() { emit x; } fn main() flow { }", "fn f() { } fn main(x int, x int) flow { emit y; }")
	wantErrors(t, api.ErrCount, "fn main(x int) { }", "fn main(x int, x int) { }", "fn f() { emit x; } fn main(x int) { emit y; }")
	if _, err := Resolve(parsed(t, "fn main() int { return 1; }")); err != api.OK {
		t.Errorf("main with a result: %d", err)
	}
	if _, err := Resolve(parsed(t, "fn f() { } fn g() flow { } fn main() { }")); err != api.OK {
		t.Errorf("main as the last one: %d", err)
	}
}

// TestP41Twice checks variables that are made with a name that is seen.
func TestP41Twice(t *testing.T) {
	wantErrors(t, api.ErrTwice, "fn main() { } fn f(x int, x int) { }", "fn main() { } fn f(x int, y int, x bool) { emit z; }", "fn main() { } fn f(x int) { let x = 1; }", "fn main() { } fn f(x int) { while true { use x = 1 { } } }", "fn main() { } fn f(x int) { if true { } else { let x = x; } }")
	wantErrors(t, api.ErrTwice, inMain(
		"let x = 1; let x = 2;", "let x = 1; if true { let x = 2; }", "let x = 1; if true { } else { let x = 2; }", "let x = 1; if true { } else if true { let x = 2; }", "let x = 1; while true { let x = 2; }", "let x = 1; scope { let x = 2; }", "let x = 1; shield { let x = 2; }",
		"let x = 1; use x = 2 { }", "use x = 1 { let x = 2; }", "use x = 1 { use x = 2 { } }", "let x = 1; hold x { let x = 2; }", "let x = 1; each x from h(1) { }", "each x from h(1) { let x = 2; }",
		"let x = 1; try { let x = 2; } finally { }", "let x = 1; try { } catch x { }", "try { } catch x { let x = 1; }", "let x = 1; try { } catch y { let x = 2; }", "let x = 1; try { } finally { let x = 2; }",
		"let x = 1; select { receive x from x { } }", "let c = 1; select { receive x from c { let x = 1; } }", "let x = 1; select { after 1 { let x = 1; } }", "let x = 1; select { else { let x = 1; } }", "let x = 1; select { send x, x { let x = 1; } }",
		"let x = 1; let x = g();", "let x = 1; let x = spawn f(1);", "let x = 1; let x = await x;", "let x = 1; let x = receive x;", "let x = 1; let x = chan 1;", "let x = 1; let x = lock 1;", "let x = 1; let x = now;", "let x = 1; let x = x;", "let x = 1; while true { let x = receive x else break; }",
	)...)
}

// TestP41Name checks names that are not seen, and functions that are none.
func TestP41Name(t *testing.T) {
	wantErrors(t, api.ErrName, inMain(
		"emit x; let x = 1;", "let x = x;", "let x = 1 + x;", "x = 1;", "x = 1; let x = 1;", "emit main;", "emit f;", "f(x);", "let y = g2();", "k();", "spawn k();", "each x from k() { }", "let k = 1; k();", "emit -(1 + !x);",
		"if true { let x = 1; } emit x;", "if true { let x = 1; } else { emit x; }", "if x { let x = 1; }", "while true { let x = 1; } x = 2;", "while x { let x = 1; }", "scope { let x = 1; } emit x;", "scope within x { let x = 1; }", "shield { let x = 1; } emit x;",
		"use x = x { }", "use x = 1 { } emit x;", "use x = 1 { let y = x; } emit y;", "hold x { let x = 1; }", "each x from h(x) { }", "each x from h(1) { } emit x;", "try { let x = 1; } catch y { emit x; }", "try { let x = 1; } finally { emit x; }", "try { emit x; } catch x { }", "try { } catch x { } finally { emit x; }", "try { } catch x { } emit x;",
		"select { receive x from x { } }", "let c = 1; select { receive x from c { } after x { } }", "let c = 1; select { receive x from c { } } emit x;", "let c = 1; select { receive x from c { } else { emit x; } }", "select { after x { } }", "select { send 1, x { } }", "select { send x, 1 { } }", "select { after 1 { let x = 1; } after 2 { emit x; } }",
		"await x;", "receive x;", "send x, 1;", "send 1, x;", "close x;", "sleep x;", "throw x;", "cancel x;", "let y = chan x;", "let y = lock x;", "let y = await x;", "let y = receive x;", "let y = f(x);", "let y = spawn f(x);", "return x;",
	)...)
	wantErrors(t, api.ErrName, "fn main() { let x = 1; } fn f() { emit x; }", "fn main() { } fn f(x int) { } fn g() { emit x; }", "fn main() { } fn f() flow { produce x; }", "fn main() { } fn f() int { return x; }")
}

// TestP41Flow checks flows that are called as functions, and functions as flows.
func TestP41Flow(t *testing.T) {
	wantErrors(t, api.ErrFlow, inMain("h(1);", "h();", "let x = h(1);", "spawn h(1);", "let x = spawn h(1, 2);", "each x from f(1) { }", "each x from g() { }", "each x from main() { emit y; }")...)
	wantErrors(t, api.ErrFlow, "fn main() { } fn f() flow { f(); }", "fn main() { } fn f(x int) flow { spawn f(x); }")
}

// TestP41Count checks numbers of arguments.
func TestP41Count(t *testing.T) {
	wantErrors(t, api.ErrCount, inMain("f();", "f(1, 2);", "main(1);", "let x = g(1);", "spawn f();", "let x = spawn f(1, 2);", "spawn main(1);", "each x from h() { }", "each x from h(1, 2) { }", "each x from h(1, 2, 3, 4, 5, 6) { emit y; }")...)
}

// TestP41Place checks statements that are not allowed where they stand.
func TestP41Place(t *testing.T) {
	wantErrors(t, api.ErrPlace, inMain("break;", "continue;", "while true { } break;", "while true { } continue;", "each x from h(1) { } break;", "if true { break; }", "let c = 1; let x = receive c else break;", "let c = 1; while true { } let x = receive c else break;", "produce 1;", "each x from h(1) { produce x; }", "return 1;", "while true { return 1; }", "select { else { continue; } }", "try { break; } finally { }", "scope { break; }")...)
	wantErrors(t, api.ErrPlace, "fn main() { } fn f() flow { return 1; }", "fn main() { } fn f() int { return; }", "fn main() int { return; }", "fn main() { while true { f(); } } fn f() { break; }", "fn main() { while true { } } fn f() int { continue; }", "fn main() { } fn f(x int) bool { if x == 1 { return; } return true; }")
	for _, source := range inMain("while true { break; continue; }", "each x from h(1) { break; continue; }", "while true { if true { break; } else { continue; } scope { break; } shield { continue; } try { break; } catch x { continue; } finally { break; } use x = 1 { break; } hold 1 { continue; } select { after 1 { break; } else { continue; } } }",
		"let c = 1; while true { let x = receive c else break; while true { } let y = receive c else break; }", "let c = 1; each v from h(1) { scope { let x = receive c else break; } }", "return;", "let c = 1; let x = receive c;") {
		if _, err := Resolve(parsed(t, source)); err != api.OK {
			t.Errorf("Resolve of %s: %d", source, err)
		}
	}
	for _, source := range []string{"fn main() { } fn f() flow { produce 1; while true { scope { produce 2; } } return; }", "fn main() int { return 1; }", "fn main() { } fn f(x text) text { while true { return x; } }"} {
		if _, err := Resolve(parsed(t, source)); err != api.OK {
			t.Errorf("Resolve of %s: %d", source, err)
		}
	}
}

// lets makes n variables.
func lets(n int) string {
	out := ""
	for i := range n {
		out += "let v" + strconv.Itoa(i) + " = 1; "
	}
	return out
}

// TestP41Full checks MaxVars, at the limit and one beyond, and that it comes after all else of the function.
func TestP41Full(t *testing.T) {
	flows := strings.Repeat("each x from f() { } ", api.MaxVars)
	for _, source := range []string{
		"fn main() { " + lets(api.MaxVars) + "}",
		"fn main() { } fn f(a int, b int, c int, d int) { " + lets(api.MaxVars-4) + "}",
		"fn main() { " + flows + "} fn f() flow { " + lets(api.MaxVars) + "}",
	} {
		q, err := Resolve(parsed(t, source))
		if err != api.OK || q.Funcs[len(q.Funcs)-1].Vars != api.MaxVars {
			t.Errorf("Resolve of %s: %d", source, err)
		}
	}
	wantErrors(t, api.ErrFull,
		"fn main() { "+lets(api.MaxVars+1)+"}",
		"fn main() { "+lets(100)+"}",
		"fn main() { } fn f(a int, b int, c int, d int) { "+lets(api.MaxVars-3)+"}",
		"fn main() { "+flows+" use x = 1 { } } fn f() flow { }",
		"fn main() { "+strings.Repeat("if true { let x = 1; } ", api.MaxVars+1)+"}",
		"fn main() { "+strings.Repeat("try { } catch x { } ", api.MaxVars+1)+"}",
		"fn main() { "+strings.Repeat("select { receive x from 1 { } } ", api.MaxVars+1)+"}",
		"fn main() { "+lets(api.MaxVars+1)+"} fn f() { emit x; }",
	)
	wantErrors(t, api.ErrName, "fn main() { "+lets(api.MaxVars+1)+"emit x; }", "fn f() { emit x; } fn main() { "+lets(api.MaxVars+1)+"}")
	wantErrors(t, api.ErrTwice, "fn main() { "+lets(api.MaxVars+1)+"let v0 = 1; }")
	wantErrors(t, api.ErrPlace, "fn main() { "+lets(api.MaxVars+1)+"break; }")
}

// TestP41Order checks which error of one statement, and of one function after the other, comes first.
func TestP41Order(t *testing.T) {
	for want, sources := range map[api.Errno][]string{
		api.ErrName: inMain("let y = 1; let y = x;", "let y = 1; let y = g(x);", "h(x);", "f(x, 1);", "k(1); break;", "let y = 1; let y = k();", "let y = 1; each y from k() { break; }", "let y = 1; use y = x { }", "each v from f(x) { }", "emit x; break;", "return x;", "produce x;", "x = k;", "let c = 1; let c = receive x else break;",
			"let y = 1; select { receive y from x { } }", "let y = 1; select { send y, x { let y = 1; } }", "if x { let x = x; break; }", "try { emit x; } catch y { break; } finally { break; }", "let y = 1; try { emit x; } catch y { }", "while x { h(1); }", "scope within x { break; }", "hold x { break; }"),
		api.ErrFlow:  inMain("h(1, 2);", "let x = 1; let x = h();", "let x = 1; each x from f() { break; emit y; }", "h(); emit x;", "spawn h(); break;"),
		api.ErrCount: inMain("let x = 1; let x = f();", "let x = 1; let x = spawn f(x, x);", "let x = 1; each x from h() { emit y; }", "f(); break;"),
		api.ErrTwice: inMain("let x = 1; let x = receive x else break;", "let x = 1; use x = 1 { break; }", "let x = 1; each x from h(1) { break; }", "let x = 1; try { } catch x { break; } finally { emit y; }", "let x = 1; select { receive x from 1 { break; } after y { } }", "let x = 1; let x = 2; emit y;"),
		api.ErrPlace: inMain("break; emit x;", "let c = 1; let x = receive c else break; emit y;", "return 1; emit x;", "produce 1; h(1);", "let x = 1; try { break; } catch x { }", "let x = 1; try { } catch y { break; } finally { let x = 1; }", "let x = 1; select { after 1 { break; } receive x from y { } }", "if true { break; } else { emit x; }"),
	} {
		wantErrors(t, want, sources...)
	}
	wantErrors(t, api.ErrTwice, "fn main() { } fn f(x int, x int) { } fn g() { emit x; }", "fn f() { let x = 1; let x = 2; } fn main() { break; }")
	wantErrors(t, api.ErrPlace, "fn main() { break; } fn f(x int, x int) { }", "fn f() { break; } fn main() { emit x; }")
}
