package compile

import (
	"reflect"
	"strings"
	"testing"

	"seedbed/api"
	"seedbed/code"
	"seedbed/direct"
	"seedbed/machine"
)

// explorer gives a coroutine all replies of some kinds, and compares what it asks for by the program with what it asks for by the code.
type explorer struct {
	t      *testing.T
	source string
	p      api.Program
	c      api.Code
	fn     int
	args   []api.Value
	asked  int
	done   int
}

// replies returns replies to an ask: usual ones, one for each arm, and faults.
func replies(ask api.Ask, n int) []api.Answer {
	var list []api.Answer
	if usual, err := direct.Usual(ask, n); err == api.OK {
		list = append(list, usual)
	}
	for index := 1; index < len(ask.Arms)+ask.N && ask.Kind == api.ASelect; index++ {
		r := api.Answer{Index: index}
		if index < len(ask.Arms) && ask.Arms[index].Op == api.CReceive {
			r.V = api.Value{Kind: api.KInt, N: n}
		}
		list = append(list, r)
	}
	list = append(list, api.Answer{Fault: api.Fault{Kind: api.FThrow, Text: "x"}})
	if ask.Kind == api.AReceive {
		list = append(list, api.Answer{Fault: api.Fault{Kind: api.FThrow, Text: "closed"}})
	}
	if ask.Kind == api.ALeave || direct.IsPoint(ask) {
		list = append(list, api.Answer{Fault: api.Fault{Kind: api.FCancel}})
	}
	return list
}

// explore compares all turns after answers and at most a number of further ones.
func (x *explorer) explore(answers []api.Answer, most int) {
	want, err := direct.All(x.p, x.fn, x.args, answers)
	got, other := machine.All(x.c, x.fn, x.args, answers)
	if err == api.ErrFuel && other == api.ErrFuel {
		return
	}
	if err != api.OK || other != api.OK || !reflect.DeepEqual(got, want) {
		text, _ := code.Text(x.c)
		x.t.Fatalf("%s: %swith %v after %v: %v, %d, want %v, %d", x.source, text, x.args, answers, got, other, want, err)
	}
	last := want[len(want)-1]
	if last.Done {
		x.done++
		return
	}
	x.asked++
	if most == 0 {
		return
	}
	for _, r := range replies(last.Ask, len(answers)) {
		x.explore(append(answers[:len(answers):len(answers)], r), most-1)
	}
}

// wantRoads explores a function of a source with different arguments.
func wantRoads(t *testing.T, source string, fn, most int, argLists ...[]api.Value) {
	t.Helper()
	x := &explorer{t: t, source: source, p: parsed(t, source), c: compiled(t, source), fn: fn}
	for _, x.args = range argLists {
		x.explore(nil, most)
	}
	if x.done == 0 && !strings.Contains(source, "while") {
		t.Errorf("%s is never done", source)
	}
}

// TestP112Statements explores all statements.
func TestP112Statements(t *testing.T) {
	num := func(n int) api.Value { return api.Value{Kind: api.KInt, N: n} }
	truth := func(n int) api.Value { return api.Value{Kind: api.KBool, N: n} }
	for _, body := range []string{
		"let x = n; x = x + 1; emit x; let y = x; x = 9; emit y;", "let x = -n; let y = !a; emit x; emit y;", "emit n / (n - 1);", "emit n * 2 % 3 - 1 > n == a;", "emit \"a\" + \"b\" < \"c\";", "emit a || 1 / n == 1;", "emit a && 1 / n == 1;", "emit (a || a) && !(a && a) || n != 1;",
		"let x = true; x = x && (a || x); emit x; x = !x || x; emit x;", "let x = a; try { x = n == 5 || 1 / (n - n) == 1; } catch e { emit x; }", "let x = a; try { x = n != 5 && 1 / (n - n) == 1; } catch e { emit x; }",
		"f(n); let x = g(n, a); emit x;", "let b = g(1, false); let x = g(n, b == 2); emit x;", "let t = spawn f(n); await t; let x = await t; emit x; cancel t; spawn f(1);", "let k = chan n; let d = chan n drop old; let e = chan 2 drop new; send k, n; receive d; let x = receive e; emit x; close k;", "receive c; let x = receive c; emit x;", "while a { receive c; let x = receive c else break; emit x; }", "let l = lock n; hold l { emit l; }", "let t = now; sleep t; yield;", "throw \"a\";", "return;", "return; emit 1;", "emit 1; if a { return; } emit 2;",
		"if a { emit 1; } emit 2;", "if a { emit 1; } else { emit 2; }", "if a { } else { emit 2; }", "if a { emit 1; } else if n == 5 { emit 2; } else { emit 3; }", "if true { emit 1; } else { emit 2; } if false { emit 3; }", "if a && n == 5 { emit 1; } else if a || n == 5 { emit 2; }",
		"let i = 0; while i < 3 { i = i + 1; emit i; }", "while n == 5 && a { yield; break; }", "let i = 0; while true { i = i + 1; if i == 2 { continue; } if i > 3 { break; } emit i; }", "while false { emit 1; }", "let i = 0; while i < 2 { let j = 0; while true { j = j + 1; if j > i { break; } if j == 1 { continue; } emit j; } i = i + 1; }",
		"scope { emit 1; } emit 2;", "scope supervised within n { sleep 1; } emit 2;", "scope within n / 5 - 1 { }", "scope { throw \"a\"; } emit 2;", "shield { yield; } emit 1;", "use r = n { r = r + 1; emit r; yield; }", "use r = n { }", "let l = lock 1; let m = lock 2; hold l { l = m; yield; } emit 1;",
		"try { yield; } catch e { emit e; } emit 1;", "try { yield; } finally { emit 1; } emit 2;", "try { yield; } catch e { emit e; } finally { yield; } emit 2;", "try { try { yield; } finally { yield; } } catch e { emit e; e = \"b\"; throw e; }", "try { throw \"a\"; } catch e { yield; } emit 2;", "try { } catch e { emit 1; } finally { }", "try { emit 1; } catch e { try { yield; } catch f { emit e + f; } }", "try { f(n); throw \"b\"; } catch e { emit e; }",
		"select { receive x from c { emit x; } send c, n + 1 { emit 2; } after n { emit 3; } else { emit 4; } } emit 5;", "select { receive x from c { x = x + 1; emit x; } receive y from c { let z = y; emit z; } }", "select { after 1 / (n - 5) { emit 3; } }", "select { send c, 1 { return; } after n { throw \"a\"; } else { } } emit 1;", "select { after n { } }",
		"each x from h(n) { emit x; }", "each x from h(n) buffer 2 drop new { if x == 3 { break; } if a { continue; } yield; }", "each x from h(1 / (n - 5)) { }", "each x from h(n) { return; } emit 1;",
	} {
		source := "fn main() { } fn w(n int, a bool, c chan) { " + body + " } fn f(x int) { if x == 5 { throw \"f\"; } yield; } fn g(x int, b bool) int { while b { yield; return x; } try { return x + 1; } finally { yield; } } fn h(x int) flow { produce x; }"
		ch := api.Value{Kind: api.KChan, N: 4}
		wantRoads(t, source, 1, 4, []api.Value{num(5), truth(0), ch}, []api.Value{num(1), truth(1), ch}, []api.Value{num(5), truth(1), ch})
	}
}

// TestP112Exits explores blocks that are left in all ways.
func TestP112Exits(t *testing.T) {
	blocks := []string{"scope { X }", "shield { X }", "use r = 7 { X }", "hold l { X }", "try { X } finally { emit 1; }", "try { X } finally { Y }", "try { X } catch e { Y }", "try { X } catch e { Y } finally { emit 2; }", "select { after 1 { X } else { Y } }", "while true { X }", "each i from q() { X }", "if n == 1 { X } else { Y }"}
	exits := []string{"return n;", "break;", "continue;", "throw \"a\";", "yield;", "let x = receive c else break;", "emit 3;"}
	for _, outer := range blocks {
		for _, inner := range blocks {
			for i, exit := range exits {
				rename := strings.NewReplacer("use r", "use s", "catch e", "catch f", "each i", "each j")
				body := strings.ReplaceAll(outer, "X", rename.Replace(inner))
				body = strings.ReplaceAll(strings.ReplaceAll(body, "X", exit), "Y", exits[(i+1)%len(exits)])
				source := "fn main() { } fn w(n int, l lock, c chan) int { let z = 0; while z < 2 { z = z + 1; " + body + " emit z; } return 9; } fn q() flow { }"
				wantRoads(t, source, 1, 6, []api.Value{{Kind: api.KInt, N: 1}, {Kind: api.KLock, N: 2}, {Kind: api.KChan, N: 3}})
			}
		}
	}
}

// TestP112Flows explores flows.
func TestP112Flows(t *testing.T) {
	for _, body := range []string{"", "produce 1; produce n;", "return;", "throw \"a\";", "while true { produce n; n = n + 1; if n > 6 { return; } }", "try { produce 1; } finally { produce 2; }", "use r = 1 { produce r; return; }", "each x from w(n) { produce x; }", "produce 1 / (n - 5);"} {
		wantRoads(t, "fn main() { } fn w(n int) flow { "+body+" }", 1, 5, []api.Value{{Kind: api.KInt, N: 5}, {Kind: api.KChan, N: 1}})
	}
}

// TestP112Pending checks that what is returned is not lost while blocks are executed that return something else.
func TestP112Pending(t *testing.T) {
	for _, body := range []string{
		"try { return 1; } finally { while true { try { return 2; } finally { break; } } }", "try { return 1; } finally { while true { shield { try { return 2; } finally { yield; break; } } } }", "try { try { return 1; } finally { if n == 5 { return 2; } yield; } } finally { if n == 6 { return 3; } }",
		"shield { try { return 1; } finally { try { shield { return 2; } } finally { yield; throw \"a\"; } } }", "try { shield { return 1; } } catch e { emit 1; } return 2;", "while true { try { use r = 1 { return r; } } finally { if n == 5 { continue; } } yield; }", "let x = w(n); return x;", "try { let x = w(n - 1); return x + 1; } catch e { emit e; return 0; }",
		"while true { try { break; } finally { try { yield; } finally { if n == 6 { continue; } } } } return n;", "try { try { throw \"a\"; } finally { yield; } } catch e { return n; } return 1;", "scope { try { return n; } finally { scope { yield; } } } return 1;", "scope { scope { return n; } emit 1; } return 2;",
	} {
		for n := 4; n < 7; n++ {
			wantRoads(t, "fn main() { } fn w(n int) int { while n == 9 { } "+body+" return 7; }", 1, 5, []api.Value{{Kind: api.KInt, N: n}})
		}
	}
}
