package lower

import (
	"strconv"
	"strings"
	"testing"

	"seedbed/api"
	"seedbed/kinds"
	"seedbed/syntax"
)

// wantErrors checks the errors of Lower and Grown, and that of IsLow.
func wantErrors(t *testing.T, what string, p api.Program, want, low api.Errno) {
	t.Helper()
	if q, err := Lower(p); err != want || err != api.OK && !syntax.Same(q, api.Program{}) {
		t.Errorf("Lower of %s = %v, %d, want %d", what, q, err, want)
	}
	if n, m, err := Grown(p); err != want || err != api.OK && n+m != 0 {
		t.Errorf("Grown of %s = %d, %d, %d, want %d", what, n, m, err, want)
	}
	if is, err := IsLow(p); err != low || err != api.OK && is {
		t.Errorf("IsLow of %s = %t, %d, want %d", what, is, err, low)
	}
}

// TestP91Errors checks that the errors are those of kinds.Check, also if the lowered program would be too large.
func TestP91Errors(t *testing.T) {
	const large = " fn large(a int, b int, c int, d int) flow { }"
	for source, want := range map[string]api.Errno{
		"fn f() { }": api.ErrName, "fn main() flow { }": api.ErrFlow, "fn main(x int) { }": api.ErrCount, "fn main() { } fn main() { }": api.ErrTwice, "fn main() { emit x; }": api.ErrName, "fn main() { let x = 1; let x = 2; }": api.ErrTwice, "fn main() { break; }": api.ErrPlace, "fn main() { produce 1; }": api.ErrPlace,
		"fn main() { each x from g() { } } fn g() { }": api.ErrFlow, "fn main() { g(); } fn g() flow { }": api.ErrFlow, "fn main() { each x from g(1) { } } fn g() flow { }": api.ErrCount, "fn main() { emit 1 + true; }": api.ErrKind, "fn main() { } fn g() flow { produce true; }": api.ErrKind, "fn main() { } fn g() int { }": api.ErrEnd, "fn main() { } fn g() int { each x from h() { return 1; } } fn h() flow { }": api.ErrEnd,
	} {
		p := parsed(t, source)
		if _, err := kinds.Check(p); err != want {
			t.Errorf("Check of %s: %d", source, err)
		}
		wantErrors(t, source, p, want, want)
		wantErrors(t, source, parsed(t, source+large), want, want)
		wantErrors(t, source, parsed(t, large+source), want, want)
	}
	wantErrors(t, "nothing", api.Program{}, api.ErrArg, api.ErrArg)
	wantErrors(t, "a word", api.Program{Funcs: []api.Func{{Name: "main"}, {Name: "fn"}}}, api.ErrArg, api.ErrArg)
	wantErrors(t, "a large one", parsed(t, "fn main() { }"+large), api.ErrFull, api.OK)
}

// TestP91AnyArguments checks what contains itself or is far too large.
func TestP91AnyArguments(t *testing.T) {
	body := []api.Stmt{{Op: api.SShield}, {Op: api.SShield}}
	body[0].Body, body[1].Body = body, body
	wantErrors(t, "a ring", api.Program{Funcs: []api.Func{{Name: "main", Body: body}}}, api.ErrArg, api.ErrArg)
	wantErrors(t, "many functions", api.Program{Funcs: make([]api.Func, 1<<20)}, api.ErrArg, api.ErrArg)
	wantErrors(t, "many statements", api.Program{Funcs: []api.Func{{Name: "main", Body: make([]api.Stmt, 1<<20)}}}, api.ErrArg, api.ErrArg)
}

// wantRoom checks sources with something n times: up to most the lowered program is well formed, and with one more it is not; source, though, is sound.
func wantRoom(t *testing.T, what string, most int, source func(n int) string) {
	t.Helper()
	for n, want := range map[int]api.Errno{most: api.OK, most + 1: api.ErrFull} {
		p := parsed(t, source(n))
		if _, err := kinds.Check(p); err != api.OK {
			t.Errorf("Check of %d %s: %d", n, what, err)
		}
		wantErrors(t, strconv.Itoa(n)+" "+what, p, want, api.OK)
	}
}

// TestP91Full checks all limits of lowered programs.
func TestP91Full(t *testing.T) {
	wantRoom(t, "parameters", api.MaxParams-1, func(n int) string {
		names := []string{"a int", "b int", "c int", "d int"}
		return "fn main() { } fn f(" + strings.Join(names[:n], ", ") + ") flow { }"
	})
	lets := func(n int) string {
		out := ""
		for i := range n {
			out += "let v" + strconv.Itoa(i) + " = now; "
		}
		return out
	}
	wantRoom(t, "variables of a flow", api.MaxVars-1, func(n int) string { return "fn main() { } fn f() flow { " + lets(n) + "}" })
	// An each has three: its own one, the channel and the task.
	wantRoom(t, "variables beside an each", api.MaxVars-3, func(n int) string {
		return "fn main() { " + lets(n) + "each x from f() { } } fn f() flow { }"
	})
	wantRoom(t, "variables beside two", api.MaxVars-6, func(n int) string {
		return "fn main() { " + lets(n) + "each x from f() { each y from f() { } } } fn f() flow { }"
	})
	shields := func(n int, inner string) string {
		return strings.Repeat("shield { ", n) + inner + strings.Repeat("}", n)
	}
	// The statement in as many shields has the depth n + 1 in a function, and 1 more in a flow; its expression one more.
	wantRoom(t, "shields in a flow", api.MaxDepth-2, func(n int) string { return "fn main() { } fn f() flow { " + shields(n, "yield; ") + "}" })
	wantRoom(t, "shields around a produce", api.MaxDepth-3, func(n int) string { return "fn main() { } fn f() flow { " + shields(n, "produce 1; ") + "}" })
	// Scope, try, while, receive, channel.
	wantRoom(t, "shields around an each", api.MaxDepth-5, func(n int) string {
		return "fn main() { " + shields(n, "each x from f() { } ") + "} fn f() flow { }"
	})
	// Scope, try, while.
	wantRoom(t, "shields in an each", api.MaxDepth-3, func(n int) string {
		return "fn main() { each x from f() { " + shields(n, "") + "} } fn f() flow { }"
	})
	wantRoom(t, "shields around a try", api.MaxDepth-3, func(n int) string {
		return "fn main() { " + shields(n, "try { yield; } catch e { } finally { } ") + "}"
	})
	wantRoom(t, "shields around the catch of a try", api.MaxDepth-3, func(n int) string {
		return "fn main() { " + shields(n, "try { } catch e { yield; } finally { } ") + "}"
	})
}

// TestP91FullNodes checks the greatest number of nodes.
func TestP91FullNodes(t *testing.T) {
	yields := func(n int) string { return strings.Repeat("yield;", n) }
	// main, f, and the try, the close and its channel in f.
	wantRoom(t, "yields beside a flow", api.MaxNodes-5, func(n int) string { return "fn main() { " + yields(n/2) + "} fn f() flow { " + yields(n-n/2) + "}" })
	// A produce has two nodes, and gets one more.
	wantRoom(t, "yields beside a produce", api.MaxNodes-8, func(n int) string { return "fn main() { " + yields(n) + "} fn f() flow { produce 1; }" })
	wantRoom(t, "yields beside a try", api.MaxNodes-3, func(n int) string { return "fn main() { " + yields(n) + "try { } catch e { } finally { } }" })
	// Of an each: the scope, the channel with its capacity, the spawn with its argument, the try, the while with its condition, the receive and the cancel with their variables.
	wantRoom(t, "yields beside an each", api.MaxNodes-5-12, func(n int) string {
		return "fn main() { each x from f() { " + yields(n) + "} } fn f() flow { }"
	})
	wantRoom(t, "yields beside an each with arguments", api.MaxNodes-5-12-4, func(n int) string {
		return "fn main() { " + yields(n) + "each x from f(1, 2 + 3) { } } fn f(a int, b int) flow { }"
	})
}

// TestP91Effects checks that the argument is not changed, and shares no memory with the result.
func TestP91Effects(t *testing.T) {
	const source = "fn main() { let k = chan 1; each x from f(k, 1) buffer 2 { emit -x; try { } catch e { } finally { select { receive v from k { emit v; } else { } } } } } fn f(k chan, n int) flow { produce n + 1; if n == 1 { produce 2; } else { } return; }"
	p := parsed(t, source)
	q, err := Lower(p)
	if err != api.OK || !syntax.Same(p, parsed(t, source)) {
		t.Fatalf("Lower: %d, or the argument is changed", err)
	}
	other, _ := syntax.Clone(q)
	spoil(p)
	if !syntax.Same(q, other) {
		t.Error("the result shares memory with the argument")
	}
	r, _ := Lower(parsed(t, source))
	spoil(r)
	if again, err := Lower(parsed(t, source)); err != api.OK || !syntax.Same(again, q) {
		t.Errorf("Lower again: %d, or another one", err)
	}
}

// spoil changes everything in a program.
func spoil(p api.Program) {
	var spoilExprs func(list []api.Expr)
	spoilExprs = func(list []api.Expr) {
		for i := range list {
			spoilExprs(list[i].Args)
			list[i] = api.Expr{Slot: 9, Args: list[i].Args}
		}
	}
	var spoilStmts func(list []api.Stmt)
	spoilStmts = func(list []api.Stmt) {
		for i := range list {
			s := &list[i]
			spoilExprs(s.Args)
			for _, body := range [][]api.Stmt{s.Body, s.Other, s.Last} {
				spoilStmts(body)
			}
			for j := range s.Cases {
				spoilExprs(s.Cases[j].Args)
				spoilStmts(s.Cases[j].Body)
				s.Cases[j].Op = 9
			}
			s.Op = 99
		}
	}
	for i := range p.Funcs {
		spoilStmts(p.Funcs[i].Body)
		for j := range p.Funcs[i].Params {
			p.Funcs[i].Params[j].Name = "spoilt"
		}
		p.Funcs[i].Name = "spoilt"
	}
}
