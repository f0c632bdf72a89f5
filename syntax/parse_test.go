package syntax

import (
	"math/rand/v2"
	"strings"
	"testing"

	"seedbed/api"
	"seedbed/lexis"
)

func number(n int) api.Expr { return api.Expr{Op: api.EInt, N: n} }

func text(s string) api.Expr { return api.Expr{Op: api.EText, S: s} }

func called(s string) api.Expr { return api.Expr{Op: api.EName, S: s} }

func of(op int, args ...api.Expr) api.Expr { return api.Expr{Op: op, Args: args} }

func exprs(list ...api.Expr) []api.Expr { return list }

func stmts(list ...api.Stmt) []api.Stmt { return list }

func mainOf(list ...api.Stmt) api.Program {
	return api.Program{Funcs: []api.Func{{Name: "main", Body: list}}}
}

// wantProgram checks that a source has a program, which is well formed.
func wantProgram(t *testing.T, source string, want api.Program) {
	t.Helper()
	got, at, err := Parse(source)
	if !Same(got, want) || at != 0 || err != api.OK {
		t.Errorf("Parse(%q) = %v, %d, %d, want %v", source, got, at, err, want)
	}
	if err := Check(want); err != api.OK {
		t.Errorf("Check of %q: %d", source, err)
	}
}

func wantNoProgram(t *testing.T, source string, at int, err api.Errno) {
	t.Helper()
	got, gotAt, gotErr := Parse(source)
	if len(got.Funcs) != 0 || gotAt != at || gotErr != err {
		t.Errorf("Parse(%q) = %v, %d, %d, want error %d at %d", source, got, gotAt, gotErr, err, at)
	}
}

// wantStop checks that a source without its one @ is no program, and wrong at the token behind that.
func wantStop(t *testing.T, marked string) {
	t.Helper()
	before, behind, ok := strings.Cut(marked, "@")
	if !ok || strings.Contains(behind, "@") {
		t.Errorf("%q: not one mark", marked)
	}
	gap := len(behind) - len(strings.TrimLeft(behind, " "))
	wantNoProgram(t, before+behind, len(before)+gap, api.ErrSyntax)
}

// TestP21Lines checks the statements without blocks.
func TestP21Lines(t *testing.T) {
	one, x := exprs(number(1)), exprs(called("x"))
	for source, want := range map[string]api.Stmt{
		"let a = 1;":                     {Op: api.SLet, Name: "a", Args: one},
		"let a = (x);":                   {Op: api.SLet, Name: "a", Args: x},
		"let a = x;":                     {Op: api.SLet, Name: "a", Args: x},
		"a = 1;":                         {Op: api.SSet, Name: "a", Args: one},
		"f();":                           {Op: api.SCall, Fn: "f"},
		"f(1, x, x);":                    {Op: api.SCall, Fn: "f", Args: exprs(number(1), called("x"), called("x"))},
		"let a = f(1);":                  {Op: api.SCall, Name: "a", Fn: "f", Args: one},
		"spawn f(1);":                    {Op: api.SSpawn, Fn: "f", Args: one},
		"let a = spawn f();":             {Op: api.SSpawn, Name: "a", Fn: "f"},
		"await x;":                       {Op: api.SAwait, Args: x},
		"let a = await x;":               {Op: api.SAwait, Name: "a", Args: x},
		"receive x;":                     {Op: api.SReceive, Args: x},
		"let a = receive x;":             {Op: api.SReceive, Name: "a", Args: x},
		"let a = receive x else break;":  {Op: api.SReceive, Name: "a", Args: x, Flag: 1},
		"let a = chan 1;":                {Op: api.SChan, Name: "a", Args: one},
		"let a = chan 1 drop old;":       {Op: api.SChan, Name: "a", Args: one, Flag: 1},
		"let a = chan 1 drop new;":       {Op: api.SChan, Name: "a", Args: one, Flag: 2},
		"let a = lock 1;":                {Op: api.SLock, Name: "a", Args: one},
		"let a = now;":                   {Op: api.SNow, Name: "a"},
		"send x, 1;":                     {Op: api.SSend, Args: exprs(called("x"), number(1))},
		"close x;":                       {Op: api.SClose, Args: x},
		"sleep 1;":                       {Op: api.SSleep, Args: one},
		"yield;":                         {Op: api.SYield},
		"emit 1;":                        {Op: api.SEmit, Args: one},
		"throw \"let\";":                 {Op: api.SThrow, Args: exprs(text("let"))},
		"cancel x;":                      {Op: api.SCancel, Args: x},
		"produce 1;":                     {Op: api.SProduce, Args: one},
		"return;":                        {Op: api.SReturn},
		"return 1;":                      {Op: api.SReturn, Args: one},
		"break;":                         {Op: api.SBreak},
		"continue;":                      {Op: api.SContinue},
		"let abcdefghijkl = f(x, (1)) ;": {Op: api.SCall, Name: "abcdefghijkl", Fn: "f", Args: exprs(called("x"), number(1))},
	} {
		wantProgram(t, "fn main() { "+source+" }", mainOf(want))
	}
}

// TestP21Blocks checks the statements with blocks.
func TestP21Blocks(t *testing.T) {
	one, x := exprs(number(1)), exprs(called("x"))
	a, b, c := stmts(api.Stmt{Op: api.SBreak}), stmts(api.Stmt{Op: api.SYield}), stmts(api.Stmt{Op: api.SContinue}, api.Stmt{Op: api.SReturn})
	for source, want := range map[string]api.Stmt{
		"if x { }":                               {Op: api.SIf, Args: x},
		"if x { } else { }":                      {Op: api.SIf, Args: x, Flag: 1},
		"if x { break; } else { yield; }":        {Op: api.SIf, Args: x, Flag: 1, Body: a, Other: b},
		"if x { } else if 1 { yield; }":          {Op: api.SIf, Args: x, Flag: 1, Other: stmts(api.Stmt{Op: api.SIf, Args: one, Body: b})},
		"if x { } else { if 1 { yield; } }":      {Op: api.SIf, Args: x, Flag: 1, Other: stmts(api.Stmt{Op: api.SIf, Args: one, Body: b})},
		"if x { } else if 1 { } else { yield; }": {Op: api.SIf, Args: x, Flag: 1, Other: stmts(api.Stmt{Op: api.SIf, Args: one, Flag: 1, Other: b})},
		"while x { break; }":                     {Op: api.SWhile, Args: x, Body: a},
		"scope { break; }":                       {Op: api.SScope, Body: a},
		"scope supervised { }":                   {Op: api.SScope, Flag: 1},
		"scope within 1 { }":                     {Op: api.SScope, Args: one},
		"scope supervised within 1 { break; }":   {Op: api.SScope, Flag: 1, Args: one, Body: a},
		"shield { break; }":                      {Op: api.SShield, Body: a},
		"try { } catch x { }":                    {Op: api.STry, Flag: 1, Name: "x"},
		"try { } finally { }":                    {Op: api.STry, Flag: 2},
		"try { break; } finally { yield; }":      {Op: api.STry, Flag: 2, Body: a, Last: b},
		"try { break; } catch x { yield; }":      {Op: api.STry, Flag: 1, Name: "x", Body: a, Other: b},
		"try { break; } catch x { yield; } finally { continue; return; }": {Op: api.STry, Flag: 3, Name: "x", Body: a, Other: b, Last: c},
		"use x = 1 { break; }":                   {Op: api.SUse, Name: "x", Args: one, Body: a},
		"hold x { break; }":                      {Op: api.SHold, Args: x, Body: a},
		"each v from f() { break; }":             {Op: api.SEach, Name: "v", Fn: "f", Body: a},
		"each v from f(1) buffer 0 { }":          {Op: api.SEach, Name: "v", Fn: "f", Args: one},
		"each v from f() buffer 0 drop old { }":  {Op: api.SEach, Name: "v", Fn: "f", Flag: 1},
		"each v from f() buffer 3 { }":           {Op: api.SEach, Name: "v", Fn: "f", Flag: 12},
		"each v from f() buffer 3 drop old { }":  {Op: api.SEach, Name: "v", Fn: "f", Flag: 13},
		"each v from f() buffer 16 drop new { }": {Op: api.SEach, Name: "v", Fn: "f", Flag: 66},
	} {
		wantProgram(t, "fn main() { "+source+" }", mainOf(want))
	}
}

// TestP21Select checks the cases of a select.
func TestP21Select(t *testing.T) {
	one, x := exprs(number(1)), exprs(called("x"))
	body := stmts(api.Stmt{Op: api.SYield})
	all := []api.Case{
		{Op: api.CReceive, Name: "v", Args: x, Body: body},
		{Op: api.CSend, Args: exprs(called("x"), number(1)), Body: body},
		{Op: api.CAfter, Args: one, Body: body},
		{Op: api.CElse, Body: body},
	}
	texts := []string{"receive v from x { yield; }", "send x, 1 { yield; }", "after 1 { yield; }", "else { yield; }"}
	wantProgram(t, "fn main() { select { "+strings.Join(texts, " ")+" } }", mainOf(api.Stmt{Op: api.SSelect, Cases: all}))
	for i := range all {
		wantProgram(t, "fn main() { select { "+texts[i]+" } }", mainOf(api.Stmt{Op: api.SSelect, Cases: all[i : i+1]}))
	}
}

// TestP21Functions checks functions, parameters and results.
func TestP21Functions(t *testing.T) {
	wantProgram(t, "fn main() { }", mainOf())
	wantProgram(t, "fn main(){}fn a(x int)flow{}", api.Program{Funcs: []api.Func{{Name: "main"}, {Name: "a", Flow: true, Params: []api.Param{{Name: "x", Kind: api.KInt}}}}})
	for i, kind := range []string{"int", "bool", "text", "chan", "task", "lock"} {
		want := api.Func{Name: "f", Params: []api.Param{{Name: "x", Kind: 1 + i}}, Result: 1 + i, Body: stmts(api.Stmt{Op: api.SYield})}
		wantProgram(t, "fn f(x "+kind+") "+kind+" { yield; }", api.Program{Funcs: []api.Func{want}})
	}
}

// TestP21Expressions checks how operators are grouped.
func TestP21Expressions(t *testing.T) {
	a, b, c := called("a"), called("b"), called("c")
	for source, want := range map[string]api.Expr{
		"0": number(0), "1000000000000": number(api.MaxInt), "true": {Op: api.EBool, N: 1}, "false": {Op: api.EBool}, `"a\"b"`: text(`a"b`), `""`: text(""), "a": a,
		"(((a)))": a, "!a": of(api.ENot, a), "--a": of(api.ENeg, of(api.ENeg, a)), "-!-a": of(api.ENeg, of(api.ENot, of(api.ENeg, a))), "-1": of(api.ENeg, number(1)),
		"a || b": of(api.EOr, a, b), "a && b": of(api.EAnd, a, b), "a == b": of(api.EEq, a, b), "a != b": of(api.ENe, a, b), "a < b": of(api.ELt, a, b), "a <= b": of(api.ELe, a, b),
		"a > b": of(api.EGt, a, b), "a >= b": of(api.EGe, a, b), "a + b": of(api.EAdd, a, b), "a - b": of(api.ESub, a, b), "a * b": of(api.EMul, a, b), "a / b": of(api.EDiv, a, b), "a % b": of(api.ERem, a, b),
		"a - b - c": of(api.ESub, of(api.ESub, a, b), c), "a - (b - c)": of(api.ESub, a, of(api.ESub, b, c)), "a / b * c": of(api.EMul, of(api.EDiv, a, b), c),
		"a < b >= c": of(api.EGe, of(api.ELt, a, b), c), "a == b != c": of(api.ENe, of(api.EEq, a, b), c), "a || b || c": of(api.EOr, of(api.EOr, a, b), c), "a && b && c": of(api.EAnd, of(api.EAnd, a, b), c),
		"a || b && c": of(api.EOr, a, of(api.EAnd, b, c)), "a && b == c": of(api.EAnd, a, of(api.EEq, b, c)), "a == b < c": of(api.EEq, a, of(api.ELt, b, c)), "a < b + c": of(api.ELt, a, of(api.EAdd, b, c)),
		"a + b * c": of(api.EAdd, a, of(api.EMul, b, c)), "a * b + c": of(api.EAdd, of(api.EMul, a, b), c), "(a + b) * c": of(api.EMul, of(api.EAdd, a, b), c), "a * -b": of(api.EMul, a, of(api.ENeg, b)),
		"-a * b": of(api.EMul, of(api.ENeg, a), b), "!a == b": of(api.EEq, of(api.ENot, a), b), "!(a == b)": of(api.ENot, of(api.EEq, a, b)), "a--b": of(api.ESub, a, of(api.ENeg, b)),
	} {
		got, at, err := ParseExpr(source)
		if !sameExpr(got, want) || at != 0 || err != api.OK {
			t.Errorf("ParseExpr(%q) = %v, %d, %d, want %v", source, got, at, err, want)
		}
		wantProgram(t, "fn main() { emit "+source+"; }", mainOf(api.Stmt{Op: api.SEmit, Args: exprs(want)}))
	}
}

// TestP21Stops checks the position of the first token that cannot stand where it does.
func TestP21Stops(t *testing.T) {
	for _, marked := range []string{
		"@", " @", "@x", "fn @", "fn @let() { }", "fn main@", "fn main(@", "fn main(@int) { }", "fn main(x@, y) { }", "fn main(x @y) { }", "fn main(x @flow) { }", "fn main(x int @y int) { }", "fn main(x int,@) { }",
		"fn main() @", "fn main() @;", "fn main() @x { }", "fn main() int @flow { }", "fn main() flow @int { }", "fn main() @emit { }", "fn main() @\"int\" { }", "fn main() {@", "fn main() { }@}", "fn main() { } @x", "fn main() { } fn @",
	} {
		wantStop(t, marked)
	}
}

// TestP21StatementStops does so for the statements.
func TestP21StatementStops(t *testing.T) {
	for _, marked := range []string{
		"let a = @;", "let @let = 1;", "let a @1;", "let a = f(@;", "let a = f(1@;", "let a = f(1,@);", "let a = f()@ + 1;", "let a = 1 + f@(2);", "let a = (f@(2));", "let a = spawn @1;", "let a = spawn f@;", "let a = await@;",
		"let a = receive x else @{ }", "let a = receive x @break;", "let a = chan 1 drop @x;", "let a = chan 1 @old;", "let a = chan@;", "let a = lock@;", "let a = now @1;", "let a = \"(\" @(1);",
		"a@;", "a @+ 1;", "a = f@(1);", "f()@ + 1;", "f(1 @2);", "spawn x@;", "await x @else break;", "receive x @else break;", "send x@;", "send x, @;", "send x, 1@, 2;", "close@;", "sleep@;", "yield @1;", "emit@;", "emit 1@}", "throw@;", "cancel@;", "produce@;",
		"return 1 @2;", "return @return;", "break @1;", "continue@}", "if @{ }", "if x @yield;", "if x { } else @yield;", "if x { } else if@ { }", "@else { }", "while @{ }", "while x@;", "scope within@ { }", "scope within 1 @supervised { }", "scope supervised @supervised { }", "shield @x { }",
		"try@;", "try { @catch", "try { } @}", "try { } @x", "try { } catch @{ }", "try { } catch x @y { }", "try { } finally { } @catch x { }", "try { } catch x { } @catch y { }", "use @{ }", "use r @{ }", "use r = @{ }", "hold @{ }",
		"select @x", "select {@ }", "select { else { }@ after 1 { } }", "select { else { } @else { } }", "select { else @1 { } }", "select { receive @1 from x { } }", "select { receive v @in x { } }", "select { receive v from @{ } }", "select { send x @{ } }", "select { after @{ } }", "select { after 1 { } @x }",
		"each @from f() { }", "each v @in f() { }", "each v from f@ { }", "each v from @1 { }", "each v from f() buffer @{ }", "each v from f() buffer @17 { }", "each v from f() buffer @x { }", "each v from f() buffer @1000000000000 { }", "each v from f() @drop old { }", "each v from f() buffer 1 drop @{ }", "each v from f() buffer @\"1\" { }",
		"@1;", "@\"let\" a = 1;", "@catch x { }", "@from;", "emit @;", "emit 1 +@;", "emit (1@;", "emit (@);", "emit 1 @!;", "emit 1 @2;", "emit !@;", "emit 1 @= 1;", "emit @now;", "emit @+\"+\";", "emit \"+\" @\"+\";",
	} {
		wantStop(t, "fn main() { "+marked+" }")
	}
}

// TestP21ExprStops checks the positions of the errors of ParseExpr.
func TestP21ExprStops(t *testing.T) {
	for _, marked := range []string{"@", " @", "1 @2", "1@;", "(1@", "(@)", "a@(1)", "@let", "1 +@", "!@", "1@)", "@{", "@+1", "@now"} {
		before, behind, _ := strings.Cut(marked, "@")
		if got, at, err := ParseExpr(before + behind); !sameExpr(got, api.Expr{}) || at != len(before) || err != api.ErrSyntax {
			t.Errorf("ParseExpr(%q) = %v, %d, %d", before+behind, got, at, err)
		}
	}
}

// TestP21TokenErrors checks that the errors of Tokens come first.
func TestP21TokenErrors(t *testing.T) {
	wantNoProgram(t, "fn fn $", 6, api.ErrSyntax)
	wantNoProgram(t, "fn fn 01", 6, api.ErrSyntax)
	long := "fn fn $" + strings.Repeat(" ", api.MaxSource)
	wantNoProgram(t, long, 0, api.ErrFull)
	if _, at, err := ParseExpr("1 1 \"x"); at != 4 || err != api.ErrSyntax {
		t.Errorf("ParseExpr: %d at %d", err, at)
	}
	if _, at, err := ParseExpr(long); at != 0 || err != api.ErrFull {
		t.Errorf("ParseExpr: %d at %d", err, at)
	}
	fits := "fn main() { }"
	wantProgram(t, fits+strings.Repeat(" ", api.MaxSource-len(fits)), mainOf())
	wantNoProgram(t, fits+strings.Repeat(" ", api.MaxSource-len(fits)+1), 0, api.ErrFull)
}

// limited is a source at a limit, one beyond it, and the same one with an error of syntax behind it.
type limited struct {
	what, fits, full string
}

func limits() []limited {
	funcs := func(n int) string { return strings.Repeat("fn f() { } ", n) }
	params := func(n int) string {
		return "fn f(" + strings.TrimSuffix(strings.Repeat("x int, ", n), ", ") + ") { }"
	}
	cases := func(n int) string { return "fn f() { select { " + strings.Repeat("after 1 { } ", n) + "} }" }
	lines := func(n int) string { return "fn f() { " + strings.Repeat("yield;", n) + " }" }
	sums := func(n int) string {
		return "fn f() { " + strings.Repeat("emit 1+2;", n/4) + strings.Repeat("yield;", n%4) + "}"
	}
	nots := func(n int) string { return "fn f() { emit " + strings.Repeat("!", n-2) + "x; }" }
	whiles := func(n int) string {
		return "fn f() { " + strings.Repeat("shield {", n-1) + "yield;" + strings.Repeat("}", n)
	}
	elses := func(n int) string { return "fn f() { " + strings.Repeat("if x { } else ", n-1) + "{ } }" }
	selects := func(n int) string {
		return "fn f() { " + strings.Repeat("select { else { ", (n-1)/2) + strings.Repeat("scope { ", (n-1)%2) + "yield; " + strings.Repeat("}", n-1) + " }"
	}
	caseTimes := func(n int) string {
		return "fn f() { select { after " + strings.Repeat("-", n-3) + "1 { } } }"
	}
	groups := func(n int) string {
		return "fn f() { f(" + strings.Repeat("(1+", n-2) + "1" + strings.Repeat(")", n-2) + "); }"
	}
	return []limited{
		{"functions", funcs(api.MaxFuncs), funcs(api.MaxFuncs + 1)},
		{"parameters", params(api.MaxParams), params(api.MaxParams + 1)},
		{"cases", cases(api.MaxCases), cases(api.MaxCases + 1)},
		{"statements", lines(api.MaxNodes - 1), lines(api.MaxNodes)},
		{"nodes", sums(api.MaxNodes - 1), sums(api.MaxNodes)},
		{"depth of an expression", nots(api.MaxDepth), nots(api.MaxDepth + 1)},
		{"depth of statements", whiles(api.MaxDepth), whiles(api.MaxDepth + 1)},
		{"depth of else if", elses(api.MaxDepth), elses(api.MaxDepth + 1)},
		{"depth of cases", selects(api.MaxDepth), selects(api.MaxDepth + 1)},
		{"depth in a case", caseTimes(api.MaxDepth), caseTimes(api.MaxDepth + 1)},
		{"depth of operands", groups(api.MaxDepth), groups(api.MaxDepth + 1)},
	}
}

// TestP21Limits checks each limit of a program, and one beyond.
func TestP21Limits(t *testing.T) {
	for _, l := range limits() {
		p, at, err := Parse(l.fits)
		if err != api.OK || at != 0 || Check(p) != api.OK {
			t.Errorf("%s at the limit: %d at %d", l.what, err, at)
		}
		wantNoProgram(t, l.full, 0, api.ErrFull)
		wantNoProgram(t, l.full+" )", len(l.full)+1, api.ErrSyntax)
		if p, _, err := read(l.full, (*parser).program); err != api.OK || Check(p) != api.ErrArg {
			t.Errorf("Check beyond %s: %d", l.what, Check(p))
		}
	}
	for source, full := range map[string]bool{
		"fn f() { f(" + strings.Repeat("1,", 596) + "1); }": false,
		"fn f() { f(" + strings.Repeat("1,", 597) + "1); }": false,
		"fn f() { f(" + strings.Repeat("1,", 598) + "1); }": true,
	} {
		if _, _, err := Parse(source); (err == api.ErrFull) != full {
			t.Errorf("%d bytes of arguments: %d", len(source), err)
		}
	}
}

// TestP21ExprLimits checks MaxNodes and MaxDepth of an expression alone.
func TestP21ExprLimits(t *testing.T) {
	nots := func(n int) string { return strings.Repeat("!", n-1) + "x" }
	for source, want := range map[string]api.Errno{
		nots(api.MaxDepth):                         api.OK,
		nots(api.MaxDepth + 1):                     api.ErrFull,
		strings.Repeat("1+", api.MaxDepth-1) + "1": api.OK,
		strings.Repeat("1+", api.MaxDepth) + "1":   api.ErrFull,
		bush(api.MaxNodes):                         api.OK,
		bush(api.MaxNodes + 1):                     api.ErrFull,
	} {
		if _, at, err := ParseExpr(source); at != 0 || err != want {
			t.Errorf("ParseExpr(%q): %d at %d, want %d", source, err, at, want)
		}
	}
	if _, at, err := ParseExpr(nots(api.MaxDepth+1) + " )"); err != api.ErrSyntax || at != api.MaxDepth+2 {
		t.Errorf("ParseExpr, deep and wrong: %d at %d", err, at)
	}
}

// bush is an expression of n nodes that is as flat as it can be.
func bush(n int) string {
	switch n {
	case 1:
		return "x"
	case 2:
		return "-x"
	}
	return "(" + bush((n-1)/2) + "+" + bush(n-1-(n-1)/2) + ")"
}

// TestP23Random checks that random programs, written somehow, are read as they are.
func TestP23Random(t *testing.T) {
	r := rand.New(rand.NewPCG(2, 3))
	read := 0
	for range 5000 {
		m := &maker{r: r, nodes: 40}
		p := m.program()
		source := m.write(p)
		if Check(p) != api.OK {
			t.Fatalf("Check of %s: %v", source, p)
		}
		if len(source) > api.MaxSource {
			continue
		}
		read++
		wantProgram(t, source, p)
		list, _, _ := lexis.Tokens(source)
		if joined, err := lexis.Join(list); err == api.OK {
			wantProgram(t, joined, p)
		}
		e := m.expr(8)
		if text := m.writeExpr(e, 0); len(text) <= api.MaxSource {
			if got, at, err := ParseExpr(text); !sameExpr(got, e) || at != 0 || err != api.OK {
				t.Errorf("ParseExpr(%q) = %v, %d, %d", text, got, at, err)
			}
		}
	}
	if read < 3000 {
		t.Errorf("only %d programs are short enough", read)
	}
}
