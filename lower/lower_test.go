package lower

import (
	"strings"
	"testing"

	"seedbed/api"
	"seedbed/names"
	"seedbed/print"
	"seedbed/syntax"
)

func parsed(t *testing.T, source string) api.Program {
	t.Helper()
	p, at, err := syntax.Parse(source)
	if err != api.OK {
		t.Fatalf("Parse(%q): %d at %d", source, err, at)
	}
	return p
}

// wantLowered checks what a source is lowered to, and everything that is said of that.
func wantLowered(t *testing.T, source, want string) {
	t.Helper()
	p, q := parsed(t, source), parsed(t, want)
	got, err := Lower(p)
	if err != api.OK || !syntax.Same(got, q) {
		text, _ := print.Short(got)
		t.Errorf("Lower of %s = %s, %d, want %s", source, text, err, want)
	}
	if again, err := Lower(q); err != api.OK || !syntax.Same(again, q) {
		t.Errorf("Lower of %s: %d, or it is changed", want, err)
	}
	if is, err := IsLow(p); is != syntax.Same(p, q) || err != api.OK {
		t.Errorf("IsLow of %s = %t, %d", source, is, err)
	}
	if is, err := IsLow(q); !is || err != api.OK {
		t.Errorf("IsLow of %s = %t, %d", want, is, err)
	}
	before, _ := syntax.Nodes(p)
	after, _ := syntax.Nodes(q)
	if n, m, err := Grown(p); n != before || m != after || err != api.OK {
		t.Errorf("Grown of %s = %d, %d, %d, want %d, %d", source, n, m, err, before, after)
	}
	wantSlotsAway(t, source, p, got)
}

// wantSlotsAway checks that a program with slots is like the one without.
func wantSlotsAway(t *testing.T, source string, p, want api.Program) {
	t.Helper()
	resolved, err := names.Resolve(p)
	if err != api.OK {
		t.Errorf("Resolve of %s: %d", source, err)
	}
	if got, err := Lower(resolved); err != api.OK || !syntax.Same(got, want) {
		t.Errorf("Lower of %s with slots: %d, or it has slots", source, err)
	}
	low, _ := IsLow(p)
	if is, err := IsLow(resolved); is != low || err != api.OK {
		t.Errorf("IsLow of %s with slots = %t, %d", source, is, err)
	}
	before, after, _ := Grown(p)
	if n, m, err := Grown(resolved); n != before || m != after || err != api.OK {
		t.Errorf("Grown of %s with slots = %d, %d, %d", source, n, m, err)
	}
}

// wantSame checks that a source is not changed.
func wantSame(t *testing.T, source string) {
	t.Helper()
	wantLowered(t, source, source)
}

// TestP91Flows checks flows.
func TestP91Flows(t *testing.T) {
	const main = "fn main() { } "
	for source, want := range map[string]string{
		"fn f() flow { produce 1; }": "fn f(out0 chan) { try { send out0, 1; } finally { close out0; } }",
		"fn f() flow { }":            "fn f(out0 chan) { try { } finally { close out0; } }",
		"fn f(a int, b text, c lock) flow { produce a + 1; return; }":                              "fn f(a int, b text, c lock, out0 chan) { try { send out0, a + 1; return; } finally { close out0; } }",
		"fn f(out0 int) flow { let out1 = 1; while true { let out3 = 2; } produce out0; }":         "fn f(out0 int, out2 chan) { try { let out1 = 1; while true { let out3 = 2; } send out2, out0; } finally { close out2; } }",
		"fn f() flow { if true { use out0 = 1 { } } else { try { } catch out1 { } } }":             "fn f(out2 chan) { try { if true { use out0 = 1 { } } else { try { } catch out1 { } } } finally { close out2; } }",
		"fn f(c chan) flow { select { receive out0 from c { produce out0; } } }":                   "fn f(c chan, out1 chan) { try { select { receive out0 from c { send out1, out0; } } } finally { close out1; } }",
		"fn f() flow { } fn g(out0 int) flow { } fn h(out0 int) { }":                               "fn f(out0 chan) { try { } finally { close out0; } } fn g(out0 int, out1 chan) { try { } finally { close out1; } } fn h(out0 int) { }",
		"fn f() flow { let x = out(); produce x; } fn out() int { return 1; } fn out0() { }":       "fn f(out0 chan) { try { let x = out(); send out0, x; } finally { close out0; } } fn out() int { return 1; } fn out0() { }",
		"fn f(c chan) flow { while true { let x = receive c else break; produce x; produce x; } }": "fn f(c chan, out0 chan) { try { while true { let x = receive c else break; send out0, x; send out0, x; } } finally { close out0; } }",
	} {
		wantLowered(t, main+source, main+want)
	}
}

// TestP91Produces checks that a produce is replaced in every block.
func TestP91Produces(t *testing.T) {
	for _, block := range []string{
		"if a { # } else { # }", "if a { # } else if a { # } else { # }", "while a { # }", "scope { # }", "scope supervised within 1 { # }", "shield { # }", "try { # } catch e { # }", "try { # } finally { # }", "use r = 1 { # }", "hold l { # }",
		"select { receive v from c { # } send c, 1 { # } after 1 { # } else { # } }", "while a { shield { select { else { if a { # } } } } }",
	} {
		source := "fn main() { } fn f(a bool, l lock, c chan) flow { " + block + " }"
		want := "fn main() { } fn f(a bool, l lock, c chan, out0 chan) { try { " + block + " } finally { close out0; } }"
		wantLowered(t, replaced(source, "produce 7;"), replaced(want, "send out0, 7;"))
		wantLowered(t, replaced(source, "emit 1; produce 2 * 3; yield; produce 4;"), replaced(want, "emit 1; send out0, 2 * 3; yield; send out0, 4;"))
	}
}

// TestP91Each checks each with all buffers, policies and arguments.
func TestP91Each(t *testing.T) {
	const flow = " fn f(a int, b bool) flow { }"
	const lowFlow = " fn f(a int, b bool, out0 chan) { try { } finally { close out0; } }"
	for text, want := range map[string]string{
		"": "chan 0", "buffer 0": "chan 0", "buffer 1": "chan 1", "buffer 16": "chan 16", "buffer 3 drop old": "chan 3 drop old", "buffer 3 drop new": "chan 3 drop new", "buffer 0 drop old": "chan 0 drop old", "buffer 0 drop new": "chan 0 drop new", "buffer 16 drop new": "chan 16 drop new",
	} {
		for _, body := range []string{"", "emit x;", "break;", "continue; emit 1;", "return;", "throw \"\";", "let y = x; y = y + 1; while true { break; }"} {
			wantLowered(t, "fn main() { each x from f(1 + 2, !true) "+text+" { "+body+" } emit 1; }"+flow,
				"fn main() { scope { let c0 = "+want+"; let t0 = spawn f(1 + 2, !true, c0); try { while true { let x = receive c0 else break; "+body+" } } finally { cancel t0; } } emit 1; }"+lowFlow)
		}
	}
}

// each writes what an each without arguments and buffer is lowered to.
func each(x, c, t, body string) string {
	return "scope { let " + c + " = chan 0; let " + t + " = spawn f(" + c + "); try { while true { let " + x + " = receive " + c + " else break; " + body + " } } finally { cancel " + t + "; } }"
}

// TestP91EachNames checks the names of channels and tasks: in the order of the text, and none that a variable has.
func TestP91EachNames(t *testing.T) {
	const flow = " fn f() flow { }"
	const lowFlow = " fn f(out0 chan) { try { } finally { close out0; } }"
	for source, want := range map[string]string{
		"each x from f() { } each x from f() { }":                                                     each("x", "c0", "t0", "") + each("x", "c1", "t1", ""),
		"each x from f() { each y from f() { } } each z from f() { }":                                 each("x", "c0", "t0", each("y", "c1", "t1", "")) + each("z", "c2", "t2", ""),
		"each x from f() { } let c0 = 1; let t1 = 2; each y from f() { }":                             each("x", "c1", "t0", "") + " let c0 = 1; let t1 = 2; " + each("y", "c2", "t2", ""),
		"each c0 from f() { each t0 from f() { } }":                                                   each("c0", "c1", "t1", each("t0", "c2", "t2", "")),
		"try { each x from f() { } } finally { let t0 = now; each y from f() { } }":                   "try { " + each("x", "c0", "t1", "") + " } finally { let t0 = now; " + each("y", "c1", "t2", "") + " }",
		"if true { each x from f() { } } else { each x from f() { } }":                                "if true { " + each("x", "c0", "t0", "") + " } else { " + each("x", "c1", "t1", "") + " }",
		"try { each x from f() { } } catch e { each x from f() { } } finally { each x from f() { } }": "try { try { " + each("x", "c0", "t0", "") + " } catch e { " + each("x", "c1", "t1", "") + " } } finally { " + each("x", "c2", "t2", "") + " }",
		"select { after 1 { each x from f() { } } else { each x from f() { } } }":                     "select { after 1 { " + each("x", "c0", "t0", "") + " } else { " + each("x", "c1", "t1", "") + " } }",
		"let c = 1; let c1 = 2; let c00 = 3; let t = c; each x from f() { }":                          "let c = 1; let c1 = 2; let c00 = 3; let t = c; " + each("x", "c0", "t0", ""),
		"while true { let c0 = 1; } each x from f() { } use t0 = 1 { }":                               "while true { let c0 = 1; } " + each("x", "c1", "t1", "") + " use t0 = 1 { }",
		"each x from f() { } try { } catch c0 { } let k = chan 0; select { receive t0 from k { } }":   each("x", "c1", "t1", "") + " try { } catch c0 { } let k = chan 0; select { receive t0 from k { } }",
	} {
		wantLowered(t, "fn main() { "+source+" }"+flow, "fn main() { "+want+" }"+lowFlow)
	}
	wantLowered(t, "fn main() { each x from f() { } } fn g(c0 int, t1 int) { each x from f() { } each x from f() { } }"+flow,
		"fn main() { "+each("x", "c0", "t0", "")+" } fn g(c0 int, t1 int) { "+each("x", "c1", "t0", "")+each("x", "c2", "t2", "")+" }"+lowFlow)
	wantLowered(t, "fn main() { } fn f() flow { each x from f() { produce x; } }", "fn main() { } fn f(out0 chan) { try { "+each("x", "c0", "t0", "send out0, x;")+" } finally { close out0; } }")
}

// TestP91Tries checks a try with both parts, and others.
func TestP91Tries(t *testing.T) {
	for source, want := range map[string]string{
		"try { emit 1; } catch e { emit e; } finally { emit 3; }": "try { try { emit 1; } catch e { emit e; } } finally { emit 3; }",
		"try { } catch e { } finally { }":                         "try { try { } catch e { } } finally { }",
		"try { try { } catch a { } finally { } } catch b { try { } catch c { } finally { } } finally { try { } catch d { } finally { } }": "try { try { try { try { } catch a { } } finally { } } catch b { try { try { } catch c { } } finally { } } } finally { try { try { } catch d { } } finally { } }",
		"while true { try { break; } catch e { continue; } finally { return; } }":                                                         "while true { try { try { break; } catch e { continue; } } finally { return; } }",
	} {
		wantLowered(t, "fn main() { "+source+" }", "fn main() { "+want+" }")
	}
	wantSame(t, "fn main() { try { try { } catch e { } } finally { } try { } catch e { } try { } finally { } try { try { } finally { } } catch e { } }")
}

// TestP91Same checks that everything else remains as it is.
func TestP91Same(t *testing.T) {
	wantSame(t, "fn main() { }")
	wantSame(t, `fn g(a int, b bool) int { return a; } fn main() { let x = 1; x = -x; let y = g(x, !true); g(1, false); let t = spawn g(2, true); spawn g(3, x == y); let v = await t; await t; let c = chan 2 drop old; let d = chan x; let w = receive c; receive c; send c, 1 + 2; close c; sleep 1; yield; emit "a" + "b"; cancel t; let l = lock 1; let n = now;
		while true { let z = receive c else break; continue; } if x == 1 { } else if x == 2 { } else { } scope { } scope supervised within 3 { } shield { } use r = 7 { } hold l { } select { receive q from c { } send c, 2 { } after 3 { } else { } } throw "x"; return; } fn out0(out0 int, c0 chan, t0 task) { }`)
}

func replaced(block, by string) string { return strings.ReplaceAll(block, "#", by) }
