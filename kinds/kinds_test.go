package kinds

import (
	"slices"
	"strconv"
	"strings"
	"testing"

	"seedbed/api"
	"seedbed/names"
	"seedbed/syntax"
)

func parsed(t *testing.T, source string) api.Program {
	t.Helper()
	p, at, err := syntax.Parse(source)
	if err != api.OK {
		t.Fatalf("Parse(%q): %d at %d", source, err, at)
	}
	return p
}

// letters holds the variable of each kind that inContext makes, and by which the kind is called in tables.
const letters = "-ibtckl"

func kindOf(letter byte) int { return strings.IndexByte(letters, letter) }

func kindsIn(s string) []int {
	var list []int
	for i := range len(s) {
		list = append(list, kindOf(s[i]))
	}
	return list
}

// inContext puts statements into a function in which each kind has a variable, the slots of which are 0 to 5, beside others that can be called.
func inContext(body string) string {
	return `fn main() { } fn f(i int, b bool, t text, c chan) { let k = spawn main(); let l = lock 1; ` + body + ` }
		fn p(a int, b bool, c text, d chan) { } fn p2(a task, b lock) int { return 1; } fn q(a int, b bool, c text, d chan) flow { } fn q2(a task, b lock) flow { } fn e() flow { }
		fn ri() int { return 1; } fn rb() bool { return true; } fn rt() text { return ""; } fn rc(c chan) chan { return c; } fn rk(t task) task { return t; } fn rl(l lock) lock { return l; }`
}

// want is a statement with an @ that can be an expression of some kinds.
type want struct {
	stmt, kinds string
}

// wants lists the statements that contain expressions, for inContext.
func wants() []want {
	list := []want{
		{"let x = @;", "ibtckl"}, {"emit @;", "ibtckl"},
		{"p(@, b, t, c);", "i"}, {"p(i, @, t, c);", "b"}, {"p(i, b, @, c);", "t"}, {"p(i, b, t, @);", "c"}, {"p2(@, l);", "k"}, {"p2(k, @);", "l"}, {"let x = p2(@, l);", "k"}, {"let x = p2(k, @);", "l"},
		{"spawn p(@, b, t, c);", "i"}, {"spawn p(i, @, t, c);", "b"}, {"spawn p(i, b, @, c);", "t"}, {"spawn p(i, b, t, @);", "c"}, {"let x = spawn p2(@, l);", "k"}, {"let x = spawn p2(k, @);", "l"},
		{"each x from q(@, b, t, c) { }", "i"}, {"each x from q(i, @, t, c) { }", "b"}, {"each x from q(i, b, @, c) { }", "t"}, {"each x from q(i, b, t, @) { }", "c"}, {"each x from q2(@, l) buffer 1 { }", "k"}, {"each x from q2(k, @) { }", "l"},
		{"await @;", "k"}, {"let x = await @;", "k"}, {"cancel @;", "k"},
		{"receive @;", "c"}, {"let x = receive @;", "c"}, {"while b { let x = receive @ else break; }", "c"}, {"close @;", "c"},
		{"send @, i;", "c"}, {"send c, @;", "i"}, {"sleep @;", "i"}, {"throw @;", "t"}, {"let x = chan @;", "i"}, {"let x = chan @ drop new;", "i"}, {"let x = lock @;", "i"},
		{"use x = @ { }", "i"}, {"hold @ { }", "l"}, {"scope within @ { }", "i"}, {"scope supervised within @ { }", "i"},
		{"if @ { }", "b"}, {"if @ { } else { }", "b"}, {"if b { } else if @ { }", "b"}, {"while @ { }", "b"},
		{"select { receive x from @ { } }", "c"}, {"select { send @, i { } }", "c"}, {"select { send c, @ { } }", "i"}, {"select { after @ { } }", "i"}, {"select { after 1 { } receive x from c { } after @ { } else { } }", "i"},
	}
	for _, x := range letters[1:] {
		list = append(list, want{string(x) + " = @;", string(x)})
	}
	return list
}

// wantKind checks whether a program is sound or ErrKind.
func wantKind(t *testing.T, source string, sound bool) {
	t.Helper()
	want := api.ErrKind
	if sound {
		want = api.OK
	}
	if _, err := Check(parsed(t, source)); err != want {
		t.Errorf("Check of %s: %d, want %d", source, err, want)
	}
}

// TestP51Wants checks what each statement wants, for variables of each kind, and for operators.
func TestP51Wants(t *testing.T) {
	operators := map[string]byte{"1": 'i', "-1": 'i', "i + 1": 'i', "i * (2 - i) / 3 % 4": 'i', "true": 'b', "!b": 'b', "k == k": 'b', "i < 1 || b && t >= t": 'b', `""`: 't', `t + "a"`: 't'}
	for _, x := range letters[1:] {
		operators[string(x)] = byte(x)
	}
	for _, w := range wants() {
		for e, kind := range operators {
			stmt := strings.Replace(w.stmt, "@", e, 1)
			wantKind(t, inContext(stmt), strings.IndexByte(w.kinds, kind) >= 0)
		}
	}
}

// TestP51Everywhere checks that statements are looked at wherever they stand, also where they can't be reached.
func TestP51Everywhere(t *testing.T) {
	for _, place := range []string{
		"if b { @ }", "if b { } else { @ }", "if b { } else if b { @ }", "if b { } else if b { } else { @ }", "while b { @ }", "scope { @ }", "scope supervised within 1 { @ }", "shield { @ }", "try { @ } finally { }", "try { } catch x { @ }", "try { } finally { @ }", "try { } catch x { } finally { @ }", "use x = 1 { @ }", "hold l { @ }",
		"select { receive x from c { @ } }", "select { send c, 1 { @ } }", "select { after 1 { @ } }", "select { else { @ } }", "select { after 1 { } else { @ } }", "each x from e() { @ }",
		"yield; @", "@ yield;", "return; @", "throw t; @", "while true { } @", "while true { break; @ }", "while true { continue; @ }", "if false { @ }", "while false { @ }", "while b { if b { try { } catch x { shield { @ } } } }",
	} {
		for _, stmt := range []string{"sleep @;", "if @ > 1 { }", "select { after @ { } }", "let y = i; y = @;", "let y = i + @;", "emit -@;"} {
			source := inContext(strings.Replace(place, "@", stmt, 1))
			wantKind(t, strings.Replace(source, "@", "i", 1), true)
			wantKind(t, strings.Replace(source, "@", "t", 1), false)
		}
	}
}

// TestP51Results checks returns, the functions that can be spawned, and calls whose result is used.
func TestP51Results(t *testing.T) {
	words := []string{"", "int", "bool", "text", "chan", "task", "lock"}
	for result := 1; result < len(words); result++ {
		for _, x := range letters[1:] {
			wantKind(t, "fn main() { } fn f(i int, b bool, t text, c chan) "+words[result]+" { let k = spawn main(); let l = lock 1; if b { return "+string(x)+"; } throw t; }", result == kindOf(byte(x)))
		}
	}
	for stmt, sound := range map[string]bool{
		"spawn main();": true, "spawn ri();": true, "spawn rb();": false, "spawn rt();": false, "spawn rc(c);": false, "spawn rk(k);": false, "spawn rl(l);": false,
		"let x = spawn main();": true, "let x = spawn ri();": true, "let x = spawn rb();": false, "let x = spawn rt();": false, "let x = spawn rc(c);": false, "let x = spawn rk(k);": false, "let x = spawn rl(l);": false,
		"main();": true, "ri();": true, "rb();": true, "rt();": true, "rc(c);": true, "rk(k);": true, "rl(l);": true,
		"let x = main();": false, "let x = p(i, b, t, c);": false, "let x = ri();": true, "let x = rb();": true, "let x = rt();": true, "let x = rc(c);": true, "let x = rk(k);": true, "let x = rl(l);": true,
		"return;": true, "while b { return; }": true, "scope { }": true, "scope supervised { }": true,
	} {
		wantKind(t, inContext(stmt), sound)
	}
	for _, kind := range letters[1:] {
		wantKind(t, "fn main() { } fn f(i int, b bool, t text, c chan) flow { let k = spawn main(); let l = lock 1; produce "+string(kind)+"; }", kind == 'i')
	}
	wantKind(t, "fn main() int { return 1; }", true)
	wantKind(t, "fn main() int { return true; }", false)
	wantKind(t, "fn main() { main(); spawn main(); }", true)
	wantKind(t, "fn main() bool { main(); return true; }", true)
	wantKind(t, "fn main() bool { spawn main(); return true; }", false)
}

// TestP51Program checks that Check returns what Resolve makes of a program without slots, whatever its slots are.
func TestP51Program(t *testing.T) {
	for _, source := range []string{"fn main() { }", everything, inContext("let x = i; if b { let y = x; emit y; } let y = 2; p(y, b, t, c);")} {
		p := parsed(t, source)
		want, err := names.Resolve(p)
		if err != api.OK {
			t.Fatalf("Resolve of %s: %d", source, err)
		}
		for _, q := range []api.Program{p, want, slotted(t, p)} {
			if got, err := Check(q); err != api.OK || !syntax.Same(got, want) {
				t.Errorf("Check = %v, %d, want %v", got, err, want)
			}
		}
	}
}

// slotted returns a program with slots that are none.
func slotted(t *testing.T, p api.Program) api.Program {
	t.Helper()
	q, err := syntax.Clone(p)
	if err != api.OK {
		t.Fatalf("Clone: %d", err)
	}
	for i := range q.Funcs {
		q.Funcs[i].Vars = -7 - i
		for j := range q.Funcs[i].Body {
			s := &q.Funcs[i].Body[j]
			s.Slot, s.Index = 99, -1<<40
			for k := range s.Args {
				s.Args[k].Slot = 1 << 50
			}
			for k := range s.Cases {
				s.Cases[k].Slot = -1
			}
		}
	}
	return q
}

// everything is sound, and has each kind of statement and case, and variables made in all ways.
const everything = `fn main() { let a = f(1, true, "x"); let w = chan0(); let b = spawn g(w, 2); let c = await b; let d = chan 3 drop old; while true { let k = receive d else break; emit k; continue; } let h = lock 1; let i = now; let j = i;
	a = "y"; g2(); spawn g2(); await b; receive d; send d, j; close d; sleep -j + 1; yield; emit a; cancel b; hold h { let m = h; } use n = c { let o = n == 1; } return; }
fn f(x int, y bool, z text) text { if x < 1 { let w = x; emit w; } else if y { return "a"; } else { let w = z + z; emit w; } while !y { y = true; break; } scope supervised within x { let w = !y; } shield { throw z; } }
fn g(x chan, y int) { try { g2(); } catch k { emit k; } finally { let l = spawn g(x, y); cancel l; } select { receive v from x { emit v; } send x, y { let v = x; } after 2 { yield; } else { let v = true; } }
	each v from q(x) buffer 3 drop new { let u = v; } }
fn g2() { }
fn q(x chan) flow { produce 1; each v from q(x) { produce v; } let w = chan0(); }
fn chan0() chan { let c = chan 0; return c; }
`

// TestP52Vars checks the kinds of all variables, with and without slots.
func TestP52Vars(t *testing.T) {
	p := parsed(t, everything)
	q, _ := names.Resolve(p)
	for fn, want := range []string{"tckiciliilib", "ibtitb", "citkicbii", "", "cic", "c"} {
		for _, r := range []api.Program{p, q, slotted(t, p)} {
			if got, err := Vars(r, fn); !slices.Equal(got, kindsIn(want)) || err != api.OK {
				t.Errorf("Vars(%d) = %v, %d, want %v", fn, got, err, kindsIn(want))
			}
		}
	}
	for stmt, want := range map[string]string{
		"": "", "let x = i;": "i", "let x = b;": "b", "let x = t;": "t", "let x = c;": "c", "let x = k;": "k", "let x = l;": "l", "let x = 1;": "i", "let x = true;": "b", "let x = \"\";": "t", "let x = c == c;": "b", "let x = t + t;": "t", "let x = -i;": "i",
		"let x = ri();": "i", "let x = rb();": "b", "let x = rt();": "t", "let x = rc(c);": "c", "let x = rk(k);": "k", "let x = rl(l);": "l", "let x = spawn main();": "k", "let x = spawn ri();": "k", "let x = await k;": "i", "let x = receive c;": "i", "while b { let x = receive c else break; }": "i",
		"let x = chan 1;": "c", "let x = lock 1;": "l", "let x = now;": "i", "try { } catch x { }": "t", "use x = 1 { }": "i", "each x from e() { }": "i", "select { receive x from c { } }": "i", "select { after 1 { let x = b; } receive y from c { let z = t; } }": "bit",
		"let x = i; let y = x; x = 2; b = true;": "ii", "try { let x = b; } catch y { let z = y; } finally { let x = k; }": "bttk",
	} {
		if got, err := Vars(parsed(t, inContext(stmt)), 1); !slices.Equal(got, kindsIn("ibtckl"+want)) || err != api.OK {
			t.Errorf("Vars of %s = %v, %d, want %s", stmt, got, err, want)
		}
	}
}

// ending is a body, and whether it ends. R is a return.
type ending struct {
	body string
	ends bool
}

// endings holds the bodies for which the chapter says whether they end.
func endings() []ending {
	list := []ending{
		{"", false}, {"yield;", false}, {"R", true}, {"throw t;", true}, {"emit 1; R", true}, {"R emit 1;", true}, {"emit 1; R emit 1;", true}, {"R R", true}, {"throw t; R", true}, {"R while b { }", true},
		{"if b { R }", false}, {"if b { } else { R }", false}, {"if b { R } else { }", false}, {"if b { R } else { R }", true}, {"if b { R } else { throw t; }", true}, {"if true { R }", false}, {"if b { R } else if b { R }", false}, {"if b { R } else if b { R } else { R }", true}, {"if b { R } else if b { } else { R }", false}, {"if b { R } else { if b { R } else { R } }", true},
		{"while b { R }", false}, {"while b { }", false}, {"while false { R }", false}, {"while !false { }", false}, {"while 1 == 1 { R }", false}, {"while b || true { R }", false}, {"while true { }", true}, {"while (true) { }", true}, {"while true { emit 1; }", true}, {"while true { R }", true}, {"while true { if b { R } }", true}, {"while true { continue; }", true},
		{"while true { break; }", false}, {"while true { R break; }", false}, {"while true { let x = receive c else break; }", false}, {"while true { let x = receive c; }", true}, {"while true { receive c; }", true}, {"while b { R } R", true},
		{"while true { while b { break; } }", true}, {"while true { while true { break; } }", true}, {"while true { each x from e() { break; } }", true}, {"while true { while b { let x = receive c else break; } }", true}, {"while true { each x from e() { let y = receive c else break; } }", true}, {"while true { while true { break; } break; }", false}, {"while true { while b { } let x = receive c else break; }", false}, {"while true { while true { } break; }", false}, {"while b { while true { } }", false}, {"while b { } while true { }", true},
		{"each x from e() { R }", false}, {"each x from e() { while true { } }", false}, {"each x from e() { } R", true}, {"each x from e() { break; }", false},
		{"scope { R }", false}, {"scope { throw t; }", false}, {"scope { while true { } }", false}, {"scope supervised within 1 { R }", false}, {"scope { R } R", true}, {"scope { }", false},
		{"shield { R }", true}, {"shield { }", false}, {"shield { yield; R yield; }", true}, {"use x = 1 { R }", true}, {"use x = 1 { }", false}, {"hold l { R }", true}, {"hold l { }", false}, {"shield { use x = 1 { hold l { throw t; } } }", true}, {"shield { scope { R } }", false}, {"scope { shield { R } }", false},
		{"try { } finally { }", false}, {"try { R } finally { }", true}, {"try { } finally { R }", true}, {"try { R } finally { R }", true}, {"try { R } catch x { }", false}, {"try { } catch x { R }", false}, {"try { R } catch x { R }", true}, {"try { throw t; } catch x { }", false}, {"try { throw t; } catch x { throw x; }", true}, {"try { } catch x { }", false},
		{"try { } catch x { } finally { }", false}, {"try { R } catch x { } finally { }", false}, {"try { } catch x { R } finally { }", false}, {"try { R } catch x { R } finally { }", true}, {"try { } catch x { } finally { R }", true}, {"try { R } catch x { } finally { R }", true}, {"try { } catch x { R } finally { throw t; }", true},
		{"select { after 1 { R } }", true}, {"select { after 1 { } }", false}, {"select { else { R } }", true}, {"select { else { } }", false}, {"select { after 1 { R } else { } }", false}, {"select { after 1 { } else { R } }", false}, {"select { receive x from c { R } send c, 1 { throw t; } after 1 { while true { } } else { R } }", true}, {"select { receive x from c { R } send c, 1 { R } after 1 { R } else { } }", false}, {"select { receive x from c { } send c, 1 { R } }", false}, {"select { receive x from c { R } send c, 1 { } after 1 { R } }", false},
		{"use x = 1 { if b { R } else { throw t; } }", true}, {"if b { scope { R } } else { R }", false}, {"try { while true { } } catch x { select { after 1 { R } } }", true},
	}
	for _, place := range []string{"if b { @ }", "if b { } else { @ }", "if b { R } else if b { } else { @ }", "scope { @ }", "shield { @ }", "try { @ } finally { }", "try { } catch x { @ }", "try { } finally { @ }", "use x = 1 { @ }", "hold l { @ }", "select { receive x from c { @ } }", "select { send c, 1 { @ } after 1 { R } }", "select { after 1 { } else { @ } }", "if b { try { } catch x { shield { scope { @ } } } }", "try { R } finally { @ }", "R @"} {
		loop := func(body string) string {
			return "while true { " + strings.Replace(place, "@", body, 1) + " }"
		}
		list = append(list, ending{loop("yield;"), true}, ending{loop("continue;"), true}, ending{loop("R"), true}, ending{loop("break;"), false}, ending{loop("let y = receive c else break;"), false}, ending{loop("while b { break; }"), true}, ending{loop("each y from e() { break; }"), true})
	}
	return list
}

// TestP51Ends checks which blocks end, by Ends and by the ErrEnd of functions with a result.
func TestP51Ends(t *testing.T) {
	const params = "(b bool, t text, c chan, l lock) "
	for _, x := range endings() {
		plain := parsed(t, "fn main() { } fn f"+params+"{ "+strings.ReplaceAll(x.body, "R", "return;")+" } fn e() flow { }")
		if ends, err := Ends(plain, 1); ends != x.ends || err != api.OK {
			t.Errorf("Ends of %s = %t, %d", x.body, ends, err)
		}
		result := parsed(t, "fn main() { } fn f"+params+"int { "+strings.ReplaceAll(x.body, "R", "return 1;")+" } fn e() flow { }")
		ends, err := Ends(result, 1)
		if !x.ends {
			wantError(t, result, api.ErrEnd)
		} else if _, other := Check(result); !ends || err != api.OK || other != api.OK {
			t.Errorf("%s: Ends = %t, %d, Check %d", x.body, ends, err, other)
		}
	}
}

// TestP52EndsOfEach checks that Ends looks at the function that it is asked for.
func TestP52EndsOfEach(t *testing.T) {
	p := parsed(t, "fn a() { } fn main() { return; } fn b() int { return 1; } fn c() { yield; } fn d() flow { throw \"\"; } fn e() flow { produce 1; }")
	q, _ := names.Resolve(p)
	for fn, want := range []bool{false, true, true, false, true, false} {
		for _, r := range []api.Program{p, q, slotted(t, p)} {
			if got, err := Ends(r, fn); got != want || err != api.OK {
				t.Errorf("Ends(%d) = %t, %d", fn, got, err)
			}
		}
	}
}

// wantError checks that all functions have an error of Check, wherever they look.
func wantError(t *testing.T, p api.Program, want api.Errno) {
	t.Helper()
	if q, err := Check(p); len(q.Funcs) != 0 || err != want {
		t.Errorf("Check = %v, %d, want %d", q, err, want)
	}
	for _, fn := range []int{0, 1, -1, 99} {
		if vars, err := Vars(p, fn); len(vars) != 0 || err != want {
			t.Errorf("Vars(%d) = %v, %d, want %d", fn, vars, err, want)
		}
		if ends, err := Ends(p, fn); ends || err != want {
			t.Errorf("Ends(%d) = %t, %d, want %d", fn, ends, err, want)
		}
		for _, args := range [][]api.Value{nil, {{Kind: 9}}} {
			if err := Fits(p, fn, args); err != want {
				t.Errorf("Fits(%d) = %d, want %d", fn, err, want)
			}
		}
	}
}

// TestP51Errors checks the errors of Check, and that the earliest one comes first.
func TestP51Errors(t *testing.T) {
	for want, sources := range map[api.Errno][]string{
		api.ErrTwice: {"fn main() { emit !1; } fn main() { }", "fn main() { let x = !1; } fn f() { let y = 1; let y = 2; }", "fn main() int { } fn f(x int, x int) { }"},
		api.ErrName:  {"fn f() { emit !1; }", "fn main() { emit !1; emit x; }", "fn main() int { } fn f() { emit x; }", "fn main() { emit !1; f(); }"},
		api.ErrFlow:  {"fn main() flow { emit !1; }", "fn main() { emit !1; } fn f() { g(); } fn g() flow { }", "fn main() int { each x from main() { } }"},
		api.ErrCount: {"fn main(x int) { emit !x; }", "fn main() { sleep true; main(1); }", "fn main() int { } fn f() { main(1); }"},
		api.ErrPlace: {"fn main() { emit !1; break; }", "fn main() int { } fn f() int { return; }", "fn main() { emit !1; } fn f() { produce 1; }", "fn main() { return 1; }", "fn main() { } fn f() int { return; }", "fn main() { } fn f() flow { return 1; }"},
		api.ErrFull:  {"fn main() { emit !1; } fn f() { " + strings.Repeat("if true { let x = 1; } ", api.MaxVars+1) + "}", "fn main() int { " + strings.Repeat("use x = true { } ", api.MaxVars+1) + "}"},
		api.ErrKind: {"fn main() { emit !1; }", "fn main() { emit 1 + \"a\"; }", "fn main() { let x = 1; x = true; }", "fn main() int { emit !1; }", "fn main() int { return true; }", "fn main() int { if true { return true; } }", "fn main() { emit !1; } fn f() int { }", "fn main() { } fn f() int { sleep true; }", "fn main() int { return 1; } fn f() { emit -true; }", "fn main() { } fn f(x text) int { return x; }", "fn main() { throw 1; }",
			"fn f() { emit !1; } fn g() int { } fn main() { }", "fn main() { let x = main(); let y = x; }"},
		api.ErrEnd: {"fn main() int { }", "fn main() { } fn f() int { }", "fn main() { } fn f() int { while true { break; } }", "fn main() int { } fn f() { emit !1; }", "fn main() int { yield; } fn f() int { return true; }", "fn f() text { if true { return \"\"; } } fn main() { sleep true; }", "fn main() { } fn f() bool { } fn g() { emit !1; }"},
	} {
		for _, source := range sources {
			wantError(t, parsed(t, source), want)
		}
	}
	if _, err := Check(parsed(t, "fn main() { } fn f() int { while true { } }")); err != api.OK {
		t.Errorf("a loop for ever: %d", err)
	}
}

// TestP51Misfits checks programs that are not well formed.
func TestP51Misfits(t *testing.T) {
	ring := []api.Stmt{{Op: api.SShield}}
	ring[0].Body = ring
	args := []api.Expr{{Op: api.ENot}}
	args[0].Args = args
	emits := func(e api.Expr) []api.Stmt {
		return []api.Stmt{{Op: api.SEmit, Args: []api.Expr{e}}}
	}
	for what, body := range map[string][]api.Stmt{
		"no operator": {{}}, "a wrong operator": {{Op: api.SProduce + 1}}, "a negative operator": {{Op: -1}}, "nothing to emit": {{Op: api.SEmit}}, "an empty expression": emits(api.Expr{}), "a ring of statements": ring, "a ring of expressions": emits(api.Expr{Op: api.ENot, Args: args}),
		"no operands": emits(api.Expr{Op: api.EAdd}), "a negative number": emits(api.Expr{Op: api.EInt, N: -1}), "a try alone": {{Op: api.STry}}, "a select alone": {{Op: api.SSelect}}, "an empty case": {{Op: api.SSelect, Cases: []api.Case{{}}}}, "a let without a name": {{Op: api.SLet, Args: []api.Expr{{Op: api.EInt}}}},
		"too many statements": slices.Repeat([]api.Stmt{{Op: api.SYield}}, api.MaxNodes), "very many statements": slices.Repeat([]api.Stmt{{Op: api.SYield}}, 1<<20),
	} {
		t.Run(what, func(t *testing.T) {
			wantError(t, api.Program{Funcs: []api.Func{{Name: "main", Body: body}}}, api.ErrArg)
		})
	}
	for what, p := range map[string]api.Program{
		"nothing": {}, "no name": {Funcs: []api.Func{{}}}, "a wrong kind": {Funcs: []api.Func{{Name: "main"}, {Name: "f", Params: []api.Param{{Name: "x", Kind: api.KUnit}}}}}, "a wrong result": {Funcs: []api.Func{{Name: "main", Result: 7}}}, "a flow with a result": {Funcs: []api.Func{{Name: "main"}, {Name: "f", Flow: true, Result: api.KInt}}},
		"many parameters": {Funcs: []api.Func{{Name: "main", Params: make([]api.Param, 1<<16)}}}, "many functions": {Funcs: make([]api.Func, 1<<16)},
	} {
		t.Run(what, func(t *testing.T) { wantError(t, p, api.ErrArg) })
	}
	var many []api.Func
	for i := range api.MaxFuncs - 1 {
		many = append(many, api.Func{Name: "f" + strconv.Itoa(i)})
	}
	many = append(many, api.Func{Name: "main"})
	if _, err := Check(api.Program{Funcs: many}); err != api.OK {
		t.Errorf("Check of %d functions: %d", len(many), err)
	}
	wantError(t, api.Program{Funcs: append(many, api.Func{Name: "g"})}, api.ErrArg)
}

// TestP52Positions checks positions of functions that are none, before anything that depends on the function.
func TestP52Positions(t *testing.T) {
	p := parsed(t, everything)
	for _, fn := range []int{-1, 6, 7, -1 << 63, 1<<63 - 1} {
		if vars, err := Vars(p, fn); len(vars) != 0 || err != api.ErrArg {
			t.Errorf("Vars(%d) = %v, %d", fn, vars, err)
		}
		if ends, err := Ends(p, fn); ends || err != api.ErrArg {
			t.Errorf("Ends(%d) = %t, %d", fn, ends, err)
		}
		for _, args := range [][]api.Value{nil, {{Kind: 9}}, make([]api.Value, 9)} {
			if err := Fits(p, fn, args); err != api.ErrArg {
				t.Errorf("Fits(%d) = %d", fn, err)
			}
		}
	}
}

// TestMemory checks that arguments are not changed, and that results share no memory with them, nor with each other.
func TestMemory(t *testing.T) {
	p, want := parsed(t, everything), parsed(t, everything)
	q, _ := Check(p)
	again, _ := Check(p)
	q.Funcs[0].Name = "changed"
	q.Funcs[1].Params[0].Kind = 99
	q.Funcs[0].Body[0].Args[0].N = 99
	q.Funcs[0].Body[5].Body[0].Name = "changed"
	third, _ := Check(p)
	if !syntax.Same(p, want) || !syntax.Same(again, third) {
		t.Error("Check shares memory")
	}
	vars, _ := Vars(p, 1)
	vars[0] = 99
	if next, _ := Vars(p, 1); next[0] != api.KInt || !syntax.Same(p, want) {
		t.Error("Vars shares memory")
	}
	slots := []int{api.KInt, api.KText}
	args := []api.Value{{Kind: api.KInt, N: 1}, {Kind: api.KBool}, {Kind: api.KText, S: "a"}}
	kept := slices.Clone(args)
	Expr(api.Expr{Op: api.EName, S: "x", Slot: 1}, slots)
	if err := Fits(p, 1, args); err != api.OK || !slices.Equal(args, kept) || !slices.Equal(slots, []int{api.KInt, api.KText}) {
		t.Errorf("Fits = %d, or an argument is changed", err)
	}
}
