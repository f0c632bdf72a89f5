package direct

import (
	"strings"
	"testing"

	"seedbed/api"
)

// handles are parameters and values for statements that need them.
func handles() []api.Value {
	return []api.Value{channel(4), {Kind: api.KTask, N: 5}, {Kind: api.KLock, N: 6}}
}

// wantHandles checks a body with a channel c, a task k and a lock l.
func wantHandles(t *testing.T, body, replies, want string) {
	t.Helper()
	wantTurns(t, "fn main() { } fn f(c chan, k task, l lock) { "+body+" } fn g(x int, b bool) int { return 1; }", 1, handles(), replies, want)
}

// TestP81Asks checks each statement that asks once: with a value, with a variable, and with faults as the reply.
func TestP81Asks(t *testing.T) {
	for _, r := range [][3]string{
		{"yield;", "", "yield"}, {"sleep 5;", "", "sleep 5"}, {"sleep -5;", "", "sleep -5"}, {"emit 1;", "", "emit 1"}, {"emit c;", "", "emit chan#4"}, {`emit "a";`, "", `emit "a"`}, {"close c;", "", "close chan#4"}, {"cancel k;", "", "cancel task#5"}, {"send c, 7;", "", "send chan#4 7"},
		{"await k;", "", "await task#5"}, {"let x = await k;", "3", "await task#5"}, {"receive c;", "", "receive chan#4"}, {"let x = receive c;", "3", "receive chan#4"}, {"let x = now;", "3", "now"},
		{"let x = chan 3;", "chan#3", "chan 3 0"}, {"let x = chan -1 drop old;", "chan#3", "chan -1 1"}, {"let x = chan 0 drop new;", "chan#3", "chan 0 2"}, {"let x = lock 2;", "lock#3", "lock 2"}, {"spawn g(1, true);", "", "spawn 2 1 true"}, {"let x = spawn g(1, true);", "task#3", "spawn 2 1 true"}, {"spawn main();", "", "spawn 0"},
	} {
		body, value, ask := r[0], r[1], r[2]
		wantHandles(t, body, "", ask)
		if value == "" {
			wantHandles(t, body+" emit 1;", "3", ask+"; emit 1")
		} else {
			wantHandles(t, body+" emit x;", "3", ask+"; emit "+value)
		}
		wantHandles(t, body+" emit 1;", "!full", ask+"; done !full")
		wantHandles(t, body, "!closed", ask+"; done !closed")
		if IsPoint(api.Ask{Kind: kindOf(ask)}) {
			wantHandles(t, body+" emit 1;", "~", ask+"; done ~")
		}
	}
}

// kindOf is the kind of the ask with a word at the beginning of a text.
func kindOf(text string) int {
	word, _, _ := strings.Cut(text, " ")
	for kind, w := range words() {
		if w == word {
			return kind
		}
	}
	return 0
}

// TestP81Faults checks that a statement whose expressions have a fault does nothing else, and that the first one from the left counts.
func TestP81Faults(t *testing.T) {
	for _, body := range []string{
		"let x = 1 / 0;", "let x = 1; x = 1 / 0;", "g(1 / 0, true);", "g(1 / 0, -1000000000000 - 1 == 1);", "let x = g(1, 1 / 0 == 1);", "spawn g(1 / 0, true);", "let x = chan 1 / 0;", "let x = lock 1 / 0;", "send c, 1 / 0;", "sleep 1 / 0;", "emit 1 / 0;", "if 1 / 0 == 1 { emit 1; } else { emit 2; }", "while 1 / 0 == 1 { emit 1; }", "scope within 1 / 0 { emit 1; }", "use x = 1 / 0 { emit 1; }",
		"select { after 1 / 0 { emit 1; } else { emit 2; } }", "select { receive x from c { } send c, 1 / 0 { } after 1000000000000 + 1 { } }",
	} {
		wantHandles(t, body, "", "done !zero")
		wantHandles(t, "try { "+body+" } catch e { emit e; }", "", `emit "zero"`)
	}
	wantHandles(t, "g(-1000000000000 - 1, 1 / 0 == 1);", "", "done !big")
	wantHandles(t, "while k == k { while 1 / 0 == 1 { } }", "", "done !zero")
	wantHandles(t, "let n = 2; while 1 / n > -1 { n = n - 1; emit n; }", "- -", "emit 1; emit 0; done !zero")
}

// TestP81Values checks variables.
func TestP81Values(t *testing.T) {
	wantRows(t, []row{
		{"let x = 1; let y = x + 1; x = y * 5; emit x; emit y;", "- -", "emit 10; emit 2; done"},
		{`let x = "a"; x = x + x; emit x;`, "-", `emit "aa"; done`},
		{"let x = 1; if true { let y = x; x = y + 1; } let z = x; emit z;", "-", "emit 2; done"},
		{"let x = f(1, 2); emit x; | fn f(a int, b int) int { let c = a - b; a = 9; return c; }", "-", "emit -1; done"},
		{"let n = 0; while n < 3 { let x = n; n = n + 1; emit x; }", "- - -", "emit 0; emit 1; emit 2; done"},
	})
}

// TestP81If checks both branches, and that endings go through.
func TestP81If(t *testing.T) {
	wantRows(t, []row{
		{"if 1 < 2 { emit 1; } else { emit 2; } emit 3;", "- -", "emit 1; emit 3; done"},
		{"if 1 > 2 { emit 1; } else { emit 2; } emit 3;", "- -", "emit 2; emit 3; done"},
		{"if 1 > 2 { emit 1; } emit 3;", "-", "emit 3; done"},
		{"if false { emit 1; } else if true { emit 2; } else { emit 3; }", "-", "emit 2; done"},
		{"if true { return; } emit 3;", "", "done"},
		{"if false { } else { throw \"x\"; } emit 3;", "", "done !x"},
	})
}

// TestP81Loops checks whiles with all endings of their bodies.
func TestP81Loops(t *testing.T) {
	wantRows(t, []row{
		{"while false { emit 1; } emit 2;", "-", "emit 2; done"},
		{"let n = 0; while true { n = n + 1; if n == 2 { continue; } if n == 4 { break; } emit n; } emit 9;", "- - -", "emit 1; emit 3; emit 9; done"},
		{"while true { return; } emit 2;", "", "done"},
		{"while true { throw \"x\"; } emit 2;", "", "done !x"},
		{"while true { while true { break; } emit 1; break; } emit 2;", "- -", "emit 1; emit 2; done"},
		{"while true { sleep 1; } emit 2;", "- - ~", "sleep 1; sleep 1; sleep 1; done ~"},
	})
	wantHandles(t, "while true { let x = receive c else break; emit x; } emit 9;", "3 - !closed -", "receive chan#4; emit 3; receive chan#4; emit 9; done")
	wantHandles(t, "while true { let x = receive c else break; emit x; } emit 9;", "!close", "receive chan#4; done !close")
	wantHandles(t, "while true { let x = receive c else break; emit x; } emit 9;", "~", "receive chan#4; done ~")
	wantHandles(t, "while true { let x = receive c; emit x; } emit 9;", "!closed", "receive chan#4; done !closed")
	wantHandles(t, "while true { while true { let x = receive c else break; } emit 1; break; } emit 9;", "!closed - -", "receive chan#4; emit 1; emit 9; done")
	wantHandles(t, "while true { try { let x = receive c else break; } catch e { emit e; } } emit 9;", "!closed -", "receive chan#4; emit 9; done")
	// The flag of a chan is its policy.
	wantHandles(t, "while true { let x = chan 1 drop old; } emit 9;", "!closed", "chan 1 1; done !closed")
}

// TestP81Ends checks how a coroutine ends.
func TestP81Ends(t *testing.T) {
	wantRows(t, []row{
		{"", "", "done"}, {"return; emit 1;", "", "done"}, {`throw "a b"; emit 1;`, "", "done !a b"}, {`throw "a" + "b";`, "", "done !ab"}, {`throw "";`, "", "done !"},
	})
	for kind, v := range map[string]api.Value{"int": num(-3), "bool": {Kind: api.KBool, N: 1}, "text": {Kind: api.KText, S: "a"}, "chan": channel(7), "task": {Kind: api.KTask, N: 1}, "lock": {Kind: api.KLock, N: 9}} {
		wantTurns(t, "fn main() { } fn f(x "+kind+") "+kind+" { return x; }", 1, []api.Value{v}, "", "done"+showValues(v))
	}
}

// TestP81Calls checks calls within calls.
func TestP81Calls(t *testing.T) {
	wantRows(t, []row{
		{"f(); emit 2; | fn f() { emit 1; }", "- -", "emit 1; emit 2; done"},
		{"f(); emit 2; | fn f() { emit 1; return; }", "- -", "emit 1; emit 2; done"},
		{"let x = f(3); emit x; | fn f(n int) int { if n == 0 { return 1; } let m = f(n - 1); return n * m; }", "-", "emit 6; done"},
		{"f(); emit 2; | fn f() int { emit 1; return 5; }", "- -", "emit 1; emit 2; done"},
		{"f(); emit 2; | fn f() { emit 1; throw \"x\"; }", "-", "emit 1; done !x"},
		{"f(); emit 2; | fn f() { sleep 1; }", "~", "sleep 1; done ~"},
		{"try { f(); } catch e { emit e; } | fn f() { g(); emit 1; } fn g() { throw \"x\"; }", "-", `emit "x"; done`},
		{"let x = f(1); let y = f(2); emit x; emit y; | fn f(n int) int { let k = n; emit k; return k; }", "5 5 - -", "emit 1; emit 2; emit 1; emit 2; done"},
		{"while true { f(); emit 1; break; } | fn f() { while true { break; } }", "-", "emit 1; done"},
		{"let x = true; x = 1 == 2; let y = f(x); emit y; | fn f(b bool) bool { return !b; }", "-", "emit true; done"},
	})
}

// TestP81Deep checks that there are at most MaxFrames calls, that of the coroutine among them.
func TestP81Deep(t *testing.T) {
	count := "| fn f(n int) { if n > 0 { f(n - 1); } else { emit 1; } }"
	wantMain(t, "f(22); "+count, "-", "emit 1; done")
	wantMain(t, "f(23); "+count, "", "done !deep")
	wantMain(t, "try { f(23); } catch e { emit e; } f(22); "+count, "- -", `emit "deep"; emit 1; done`)
	wantMain(t, "f(22); f(22); "+count, "- -", "emit 1; emit 1; done")
	wantMain(t, "main();", "", "done !deep")
	wantMain(t, "f(22); | fn f(n int) { if n > 0 { f(n - 1); } try { g(); } catch e { emit n; } } fn g() { }", "-", "emit 0; done")
	wantMain(t, "try { f(9); } catch e { } f(22); | fn f(n int) { if n > 0 { f(n - 1); } else if n == 0 { emit 1; throw \"x\"; } }", "- -", "emit 1; emit 1; done !x")
	// The expressions of a call that is too deep are evaluated first.
	wantMain(t, "f(22); | fn f(n int) { f(n - n / n); }", "", "done !zero")
	wantMain(t, "f(23); | fn f(n int) { f(n - n / n); }", "", "done !deep")
	source := "fn main() { } fn f(n int) { if n > 0 { f(n - 1); } else { emit 1; } }"
	wantTurns(t, source, 1, []api.Value{num(23)}, "-", "emit 1; done")
	wantTurns(t, source, 1, []api.Value{num(24)}, "", "done !deep")
}
