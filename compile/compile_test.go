package compile

import (
	"reflect"
	"slices"
	"strconv"
	"strings"
	"testing"

	"seedbed/api"
	"seedbed/code"
	"seedbed/kinds"
	"seedbed/lower"
	"seedbed/print"
	"seedbed/syntax"
)

func parsed(t *testing.T, source string) api.Program {
	t.Helper()
	p, at, err := syntax.Parse(source)
	if err != api.OK {
		t.Fatalf("Parse(%q): %d at %d", source, err, at)
	}
	return p
}

func compiled(t *testing.T, source string) api.Code {
	t.Helper()
	c, err := Compile(parsed(t, source))
	if err != api.OK || code.Check(c) != api.OK {
		t.Fatalf("Compile of %s: %d, or the code is not valid", source, err)
	}
	return c
}

// TestP111Functions checks the functions of a code.
func TestP111Functions(t *testing.T) {
	c := compiled(t, "fn f(a int, b text) bool { return a == 1; } fn main() { } fn g(c chan) flow { } fn h() flow { produce 1; }")
	var got []string
	for _, f := range c.Funcs {
		got = append(got, f.Name+strconv.Itoa(f.Params))
	}
	if want := []string{"f2", "main0", "g2", "h1"}; !slices.Equal(got, want) {
		t.Errorf("the functions are %v, want %v", got, want)
	}
}

// TestP111Points checks numbers of points.
func TestP111Points(t *testing.T) {
	for source, want := range map[string][]int{
		"fn main() { while true { yield; } }": {1}, "fn main() { }": {0}, "fn main() { yield; sleep 1; let k = chan 1; let l = lock 1; send k, 1; receive k; hold l { } select { after 1 { } } scope { } }": {7},
		"fn main() { let x = spawn f(); await x; let y = await x; cancel x; emit 1; let z = now; f(); } fn f() { }": {2, 0}, "fn main() { shield { use r = 1 { try { yield; } catch e { yield; } finally { yield; } } } if true { yield; } else if true { yield; } else { yield; } }": {6},
		"fn main() { let k = chan 1; let x = receive k; while true { let y = receive k else break; } select { receive v from k { yield; } send k, 1 { yield; } else { yield; } } close k; }": {6},
		// The scope and the receive of an each, the send of a produce.
		"fn main() { each x from f() { yield; } } fn f() flow { produce 1; if true { produce 2; } }": {3, 2}, "fn main() { } fn f() flow { }": {0, 0}, "fn main() { scope supervised within 3 { scope { } } }": {2},
	} {
		got, err := Points(parsed(t, source))
		if err != api.OK || !slices.Equal(got, want) {
			t.Errorf("Points of %s = %v, %d, want %v", source, got, err, want)
		}
	}
}

// TestP111Lines checks that the lines are those of the text of the code.
func TestP111Lines(t *testing.T) {
	for _, source := range []string{"fn main() { }", "fn main() { emit \"a b\"; f(1); } fn f(x int) { try { sleep x; } finally { emit 2; } }"} {
		got, err := Lines(parsed(t, source))
		text, other := code.Text(compiled(t, source))
		if err != api.OK || other != api.OK || strings.Join(got, "\n")+"\n" != text {
			t.Errorf("Lines of %s = %q, %d, want %q", source, got, err, text)
		}
	}
	if got, err := Lines(parsed(t, "fn main() { }")); err != api.OK || !slices.Equal(got, []string{"fn main 0 0", "  return -1 0 0 - unit"}) {
		t.Errorf("Lines = %q, %d", got, err)
	}
}

// wantErrors checks the errors of all functions.
func wantErrors(t *testing.T, what string, p api.Program, want api.Errno) {
	t.Helper()
	if c, err := Compile(p); err != want || err != api.OK && !code.Same(c, api.Code{}) {
		t.Errorf("Compile of %s = %v, %d, want %d", what, c, err, want)
	}
	if list, err := Points(p); err != want || err != api.OK && list != nil {
		t.Errorf("Points of %s = %v, %d, want %d", what, list, err, want)
	}
	if list, err := Lines(p); err != want || err != api.OK && list != nil {
		t.Errorf("Lines of %s = %v, %d, want %d", what, list, err, want)
	}
}

// TestP111Errors checks that the errors are those of kinds.Check, and of lowered programs that are too large.
func TestP111Errors(t *testing.T) {
	const large = " fn large(a int, b int, c int, d int) flow { }"
	for source, want := range map[string]api.Errno{
		"fn f() { }": api.ErrName, "fn main() flow { }": api.ErrFlow, "fn main(x int) { }": api.ErrCount, "fn main() { } fn main() { }": api.ErrTwice, "fn main() { emit x; }": api.ErrName, "fn main() { break; }": api.ErrPlace, "fn main() { g(); } fn g() flow { }": api.ErrFlow, "fn main() { g(1); } fn g() { }": api.ErrCount, "fn main() { emit 1 + true; }": api.ErrKind, "fn main() { } fn g() int { }": api.ErrEnd,
	} {
		if _, err := kinds.Check(parsed(t, source)); err != want {
			t.Errorf("Check of %s: %d", source, err)
		}
		wantErrors(t, source, parsed(t, source), want)
		wantErrors(t, source, parsed(t, source+large), want)
	}
	wantErrors(t, "nothing", api.Program{}, api.ErrArg)
	wantErrors(t, "a large one", parsed(t, "fn main() { }"+large), api.ErrFull)
	wantErrors(t, "nearly a large one", parsed(t, "fn main() { } fn f(a int, b int, c int) flow { }"), api.OK)
	body := []api.Stmt{{Op: api.SShield}, {Op: api.SShield}}
	body[0].Body, body[1].Body = body, body
	wantErrors(t, "a ring", api.Program{Funcs: []api.Func{{Name: "main", Body: body}}}, api.ErrArg)
	wantErrors(t, "many functions", api.Program{Funcs: make([]api.Func, 1<<20)}, api.ErrArg)
	lets := ""
	for i := range api.MaxVars {
		lets += "let v" + strconv.Itoa(i) + " = now; "
	}
	wantErrors(t, "32 variables", parsed(t, "fn main() { "+lets+"}"), api.OK)
	wantErrors(t, "32 variables of a flow", parsed(t, "fn main() { } fn f() flow { "+lets+"}"), api.ErrFull)
}

// nested puts one block into another one, until there are so many of them.
func nested(blocks int, block, inner string) string {
	for i := range blocks {
		inner = strings.ReplaceAll(strings.ReplaceAll(block, "#", "v"+strconv.Itoa(i)), "X", inner)
	}
	return inner
}

// TestP111Large checks that functions with 150 nodes and 8 blocks nested in each other are not too large.
func TestP111Large(t *testing.T) {
	const exits = "if a { break; } if a { continue; } if a { return n; } let # = receive c else break; yield; "
	for _, block := range []string{
		"shield { X }", "scope { X }", "scope supervised within n { X }", "use # = n { X }", "hold l { X }", "try { X } catch # { }", "try { X } finally { }", "try { } finally { X }", "try { throw \"\"; } catch # { X }", "if a { X } else { return 1; }", "while a { X }", "select { after n { X } else { break; } }", "select { receive # from c { } send c, n { } after n { } else { X } }", "try { X } finally { shield { yield; } }",
	} {
		for _, inner := range []string{exits, "yield; ", "return n; ", "if a || a && a == a { throw \"\"; } "} {
			blocks, most := 6, 0 // in those of the while and the if
			if strings.Contains(block, "select") {
				blocks = 4 // more would be too deep
			}
			body := nested(blocks, block, strings.ReplaceAll(inner, "#", "w"))
			for n := 1; ; n++ {
				p := parsed(t, "fn main() { } fn f(a bool, c chan, l lock, n int) int { while true { "+strings.Repeat("if a { "+body+" } ", n)+"} return 1; }")
				nodes, _ := syntax.Nodes(p)
				if _, err := kinds.Check(p); nodes > 151 || err == api.ErrFull {
					break
				}
				most = n
				if _, err := Compile(p); err != api.OK {
					t.Errorf("Compile of %s %d times: %d", body, n, err)
				}
			}
			if most == 0 {
				t.Errorf("%s is not compiled", body)
			}
		}
	}
}

// TestP111Full checks that a function is too large only if it is very large, and that this is ErrFull.
func TestP111Full(t *testing.T) {
	for n, want := range map[int]api.Errno{75: api.OK, 190: api.OK, 210: api.ErrFull} {
		p := parsed(t, "fn main() { "+strings.Repeat("shield { yield; }", n)+"}")
		c, err := Compile(p)
		if err != want || err != api.OK && !code.Same(c, api.Code{}) {
			t.Errorf("Compile of %d shields: %d, want %d", n, err, want)
		}
		if lines, err := Lines(p); err != want || (lines == nil) != (want != api.OK) {
			t.Errorf("Lines of %d shields: %d", n, err)
		}
		if points, err := Points(p); err != api.OK || !slices.Equal(points, []int{n}) {
			t.Errorf("Points of %d shields = %v, %d", n, points, err)
		}
	}
}

// TestP111Expressions checks that large expressions are compiled, with few slots.
func TestP111Expressions(t *testing.T) {
	left, right := "x", "x"
	for range api.MaxDepth - 3 {
		left, right = "("+left+" + 1)", "(1 + "+right+")"
	}
	wide := "x + 1"
	for range 6 {
		wide = "(" + wide + ") * (" + wide + ")"
	}
	for _, e := range []string{left, right, wide} {
		c := compiled(t, "fn main() { } fn f(x int) int { return "+e+"; }")
		if c.Funcs[1].Slots > 1+2*api.MaxDepth {
			t.Errorf("%s has %d slots", e, c.Funcs[1].Slots)
		}
	}
}

// TestP112Equal checks that two compilations of a program are equal, also of one that was printed and read, that has slots, or that is lowered.
func TestP112Equal(t *testing.T) {
	const source = "fn main() { let k = chan 1; each x from f(k, 1) buffer 2 { emit -x; try { } catch e { } finally { select { receive v from k { emit v; } else { } } } } } fn f(k chan, n int) flow { produce n + 1; if n == 1 && n != 2 { produce 2; } else { } return; }"
	want := compiled(t, source)
	p := parsed(t, source)
	long, _ := print.Text(p)
	short, _ := print.Short(p)
	for _, text := range []string{source, long, short} {
		if c := compiled(t, source); !code.Same(c, want) {
			t.Errorf("the code of %s is another one", text)
		}
	}
	resolved, _ := kinds.Check(p)
	low, _ := lower.Lower(p)
	for _, q := range []api.Program{resolved, low} {
		if c, err := Compile(q); err != api.OK || !code.Same(c, want) {
			t.Errorf("Compile: %d, or another code", err)
		}
	}
	if !reflect.DeepEqual(p, parsed(t, source)) {
		t.Error("the argument is changed")
	}
}

// TestP112Memory checks that no two lists of a code share memory.
func TestP112Memory(t *testing.T) {
	const source = "fn main() { } fn f(a int, l lock) int { let k = chan 1; use r = a { yield; } hold l { while true { scope within a { if a == 1 { break; } if a == 2 { continue; } return a; } } } spawn f(a, l); let x = f(a, l); try { send k, x; } catch e { select { receive v from k { } send k, a { } } } return x; }"
	want := compiled(t, source)
	for i, f := range want.Funcs {
		for at, in := range f.Code {
			for j := range in.L {
				c := compiled(t, source)
				c.Funcs[i].Code[at].L[j] = -1
				changed := 0
				for other := range f.Code {
					if !slices.Equal(c.Funcs[i].Code[other].L, f.Code[other].L) {
						changed++
					}
				}
				if changed != 1 {
					t.Errorf("a change of the list at %d changes %d", at, changed)
				}
			}
		}
	}
}
