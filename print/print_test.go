package print

import (
	"strings"
	"testing"

	"seedbed/api"
	"seedbed/syntax"
)

func parsed(t *testing.T, source string) api.Program {
	t.Helper()
	p, at, err := syntax.Parse(source)
	if err != api.OK {
		t.Fatalf("Parse(%q): %d at %d", source, err, at)
	}
	return p
}

func parsedExpr(t *testing.T, source string) api.Expr {
	t.Helper()
	e, at, err := syntax.ParseExpr(source)
	if err != api.OK {
		t.Fatalf("ParseExpr(%q): %d at %d", source, err, at)
	}
	return e
}

func wantExpr(t *testing.T, e api.Expr, want string) {
	t.Helper()
	if got, err := Expr(e); got != want || err != api.OK {
		t.Errorf("Expr(%v) = %q, %d, want %q", e, got, err, want)
	}
}

// TestP31Leaves checks expressions without operators.
func TestP31Leaves(t *testing.T) {
	for want, e := range map[string]api.Expr{
		"0":             {Op: api.EInt},
		"1000000000000": {Op: api.EInt, N: api.MaxInt},
		"true":          {Op: api.EBool, N: 1},
		"false":         {Op: api.EBool},
		`""`:            {Op: api.EText},
		`"a\\\"b  #\\"`: {Op: api.EText, S: `a\"b  #\`},
		`"true"`:        {Op: api.EText, S: "true"},
		"abcdefghijkl":  {Op: api.EName, S: "abcdefghijkl"},
		"x":             {Op: api.EName, S: "x", Args: []api.Expr{}},
	} {
		wantExpr(t, e, want)
	}
}

// TestP31Operands checks which operands stand in parentheses.
func TestP31Operands(t *testing.T) {
	for source, want := range map[string]string{
		"1-(2-3)": "1 - (2 - 3)", "(1-2)-3": "1 - 2 - 3", "(1+2)*3": "(1 + 2) * 3", "1+(2*3)": "1 + 2 * 3", "(((x)))": "x",
		"--x": "--x", "-(-(x))": "--x", "!(!x)": "!!x", "-(!(x))": "-!x", "!-x": "!-x", "-(1)": "-1", "1-(-2)": "1 - -2", "(-1)*(-2)": "-1 * -2", "(!x)&&y": "!x && y",
		"-(1+2)": "-(1 + 2)", "!(x||y)": "!(x || y)", "-(x*y)": "-(x * y)", "!(x==y)": "!(x == y)", "--(x-y)": "--(x - y)", "-(-x-y)": "-(-x - y)",
		"(x||y)||z": "x || y || z", "x||(y||z)": "x || (y || z)", "(x||y)&&z": "(x || y) && z", "x||(y&&z)": "x || y && z", "(x&&y)||z": "x && y || z",
		"x&&(y&&z)": "x && (y && z)", "(x&&y)==z": "(x && y) == z", "x==(y&&z)": "x == (y && z)", "(x==y)&&z": "x == y && z",
		"(x==y)!=z": "x == y != z", "x==(y!=z)": "x == (y != z)", "(x==y)<z": "(x == y) < z", "x<(y!=z)": "x < (y != z)", "(x<y)==(y>z)": "x < y == y > z",
		"(x<y)>=z": "x < y >= z", "x<=(y>z)": "x <= (y > z)", "(x<y)+z": "(x < y) + z", "x+(y>=z)": "x + (y >= z)", "(x+y)<(y-z)": "x + y < y - z",
		"(x+y)-z": "x + y - z", "x+(y-z)": "x + (y - z)", "(x+y)*z": "(x + y) * z", "x%(y-z)": "x % (y - z)", "(x%y)-(y/z)": "x % y - y / z",
		"(x*y)/z": "x * y / z", "x*(y/z)": "x * (y / z)", "x%(y%z)": "x % (y % z)", "(x/y)%z": "x / y % z",
		"((1-2)-(3-4))-(5-(6-7))": "1 - 2 - (3 - 4) - (5 - (6 - 7))",
	} {
		wantExpr(t, parsedExpr(t, source), want)
	}
}

// TestP31Signs checks the sign of each operator.
func TestP31Signs(t *testing.T) {
	x, y := api.Expr{Op: api.EName, S: "x"}, api.Expr{Op: api.EName, S: "y"}
	for i, sign := range strings.Fields("|| && == != < <= > >= + - * / %") {
		wantExpr(t, api.Expr{Op: api.EOr + i, Args: []api.Expr{x, y}}, "x "+sign+" y")
	}
}

// wantStmt checks the text of a statement, alone and in a function.
func wantStmt(t *testing.T, source string, lines ...string) {
	t.Helper()
	p := parsed(t, "fn main(){"+source+"}")
	want := strings.Join(lines, "\n") + "\n"
	if got, err := Stmt(p.Funcs[0].Body[0]); got != want || err != api.OK {
		t.Errorf("Stmt of %s: %d\n%swant\n%s", source, err, got, want)
	}
	want = "fn main() {\n  " + strings.Join(lines, "\n  ") + "\n}\n"
	if got, err := Text(p); got != want || err != api.OK {
		t.Errorf("Text of %s: %d\n%swant\n%s", source, err, got, want)
	}
}

// TestP31Lines checks the statements without blocks.
func TestP31Lines(t *testing.T) {
	for source, want := range map[string]string{
		"let x=1;": "let x = 1;", "let x=(f);": "let x = f;", "let x=\"  ;\";": "let x = \"  ;\";", "x=1+2;": "x = 1 + 2;", "x=(1);": "x = 1;",
		"f();": "f();", "f(1,(2),x);": "f(1, 2, x);", "f((1+2)*3);": "f((1 + 2) * 3);", "let x=f();": "let x = f();", "let x=f(1,-2);": "let x = f(1, -2);",
		"spawn f();": "spawn f();", "spawn f(1,2);": "spawn f(1, 2);", "let x=spawn f(1);": "let x = spawn f(1);",
		"await x;": "await x;", "let x=await y;": "let x = await y;", "receive x;": "receive x;", "let x=receive y;": "let x = receive y;", "let x=receive y else break;": "let x = receive y else break;",
		"let x=chan 0;": "let x = chan 0;", "let x=chan(1+2)*3 drop old;": "let x = chan (1 + 2) * 3 drop old;", "let x=chan 2 drop new;": "let x = chan 2 drop new;", "let x=lock 1;": "let x = lock 1;", "let x=now;": "let x = now;",
		"send x,1;": "send x, 1;", "send(x),(1);": "send x, 1;", "close x;": "close x;", "sleep-1;": "sleep -1;", "yield ;": "yield;", "emit!x;": "emit !x;", "throw\"a\";": "throw \"a\";", "cancel x;": "cancel x;", "produce(x+1)*2;": "produce (x + 1) * 2;",
		"return ;": "return;", "return x;": "return x;", "break ;": "break;", "continue ;": "continue;",
	} {
		wantStmt(t, source, want)
	}
}

// TestP31Blocks checks the statements with blocks.
func TestP31Blocks(t *testing.T) {
	wantStmt(t, "if x{}", "if x {", "}")
	wantStmt(t, "if(x)==y{yield;yield;}", "if x == y {", "  yield;", "  yield;", "}")
	wantStmt(t, "while !x{yield;}", "while !x {", "  yield;", "}")
	wantStmt(t, "scope{}", "scope {", "}")
	wantStmt(t, "scope supervised{yield;}", "scope supervised {", "  yield;", "}")
	wantStmt(t, "scope within(1){}", "scope within 1 {", "}")
	wantStmt(t, "scope supervised within-x+1{}", "scope supervised within -x + 1 {", "}")
	wantStmt(t, "shield{shield{}}", "shield {", "  shield {", "  }", "}")
	wantStmt(t, "use r=7*(1+x){emit r;}", "use r = 7 * (1 + x) {", "  emit r;", "}")
	wantStmt(t, "hold h{while x{yield;}}", "hold h {", "  while x {", "    yield;", "  }", "}")
}

// TestP31Else checks what follows a block of an if, and when it is written as else if.
func TestP31Else(t *testing.T) {
	wantStmt(t, "if x{}else{}", "if x {", "} else {", "}")
	wantStmt(t, "if x{yield;}else{emit 1;}", "if x {", "  yield;", "} else {", "  emit 1;", "}")
	wantStmt(t, "if x{}else if y{}", "if x {", "} else if y {", "}")
	wantStmt(t, "if x{}else{if y{yield;}else{if z{}else{}}}", "if x {", "} else if y {", "  yield;", "} else if z {", "} else {", "}")
	wantStmt(t, "if x{}else{if y{}yield;}", "if x {", "} else {", "  if y {", "  }", "  yield;", "}")
	wantStmt(t, "if x{}else{while y{}}", "if x {", "} else {", "  while y {", "  }", "}")
	wantStmt(t, "if x{if y{}else{}}else if y{if z{}}", "if x {", "  if y {", "  } else {", "  }", "} else if y {", "  if z {", "  }", "}")
}

// TestP31Try checks the parts of a try.
func TestP31Try(t *testing.T) {
	wantStmt(t, "try{}catch x{}", "try {", "} catch x {", "}")
	wantStmt(t, "try{}finally{}", "try {", "} finally {", "}")
	wantStmt(t, "try{yield;}catch x{throw x;}finally{try{}finally{}}", "try {", "  yield;", "} catch x {", "  throw x;", "} finally {", "  try {", "  } finally {", "  }", "}")
}

// TestP31Select checks the cases of a select.
func TestP31Select(t *testing.T) {
	wantStmt(t, "select{else{}}", "select {", "  else {", "  }", "}")
	wantStmt(t, "select{receive v from x{emit v;}send x,1+2{}after-1{yield;}else{if x{}else{}}}",
		"select {", "  receive v from x {", "    emit v;", "  }", "  send x, 1 + 2 {", "  }", "  after -1 {", "    yield;", "  }", "  else {", "    if x {", "    } else {", "    }", "  }", "}")
}

// TestP31Each checks the buffer of an each.
func TestP31Each(t *testing.T) {
	for source, want := range map[string]string{
		"": "", "buffer 0": "", "buffer 1": " buffer 1", "buffer 16": " buffer 16", "buffer 0 drop old": " buffer 0 drop old", "buffer 0 drop new": " buffer 0 drop new", "buffer 3 drop old": " buffer 3 drop old", "buffer 16 drop new": " buffer 16 drop new",
	} {
		wantStmt(t, "each v from f(1,x)"+source+"{}", "each v from f(1, x)"+want+" {", "}")
	}
	wantStmt(t, "each v from f(){emit v;}", "each v from f() {", "  emit v;", "}")
}

// TestP31Functions checks what a function begins with.
func TestP31Functions(t *testing.T) {
	want := "fn main() {\n}\nfn f(x int, y bool) text {\n  return \"a\";\n}\nfn g(x text, y chan, z task, w lock) flow {\n}\n"
	if got, err := Text(parsed(t, "fn main(){}fn f(x int,y bool)text{return \"a\";}fn g(x text,y chan,z task,w lock)flow{}")); got != want || err != api.OK {
		t.Errorf("Text: %d\n%s", err, got)
	}
	for _, kind := range []string{"int", "bool", "text", "chan", "task", "lock", "flow"} {
		want := "fn f() " + kind + " {\n}\n"
		if got, err := Text(parsed(t, want)); got != want || err != api.OK {
			t.Errorf("Text: %d\n%s", err, got)
		}
	}
}

// TestP31Examples checks the chapter's example.
func TestP31Examples(t *testing.T) {
	got, err := Text(parsed(t, "fn main(){emit (1+2)*3;}"))
	if got != "fn main() {\n  emit (1 + 2) * 3;\n}\n" || err != api.OK {
		t.Errorf("Text: %d\n%s", err, got)
	}
}

// TestP32Short checks programs on one line.
func TestP32Short(t *testing.T) {
	for source, want := range map[string]string{
		"fn main(){emit (1+2)*3;}":                                "fn main() { emit (1 + 2) * 3; }",
		"fn main(){}":                                             "fn main() { }",
		"fn main(){} fn f()flow{yield;}":                          "fn main() { } fn f() flow { yield; }",
		"fn main(){emit \"  a  \";}":                              "fn main() { emit \"  a  \"; }",
		"fn f(){if x{}else{if y{yield;}}while x{while y{}}}":      "fn f() { if x { } else if y { yield; } while x { while y { } } }",
		"fn f(){select{send x,1{}else{try{}catch y{}finally{}}}}": "fn f() { select { send x, 1 { } else { try { } catch y { } finally { } } } }",
	} {
		if got, err := Short(parsed(t, source)); got != want || err != api.OK {
			t.Errorf("Short = %q, %d, want %q", got, err, want)
		}
	}
}
