package print

import (
	"strings"
	"testing"

	"seedbed/api"
	"seedbed/syntax"
)

func wantNoProgram(t *testing.T, what string, p api.Program) {
	t.Helper()
	if got, err := Text(p); got != "" || err != api.ErrArg {
		t.Errorf("Text of %s = %q, %d", what, got, err)
	}
	if got, err := Short(p); got != "" || err != api.ErrArg {
		t.Errorf("Short of %s = %q, %d", what, got, err)
	}
}

func wantNoStmt(t *testing.T, what string, s api.Stmt) {
	t.Helper()
	if got, err := Stmt(s); got != "" || err != api.ErrArg {
		t.Errorf("Stmt of %s = %q, %d", what, got, err)
	}
	wantNoProgram(t, what, api.Program{Funcs: []api.Func{{Name: "f", Body: []api.Stmt{s}}}})
}

func wantNoExpr(t *testing.T, what string, e api.Expr) {
	t.Helper()
	if got, err := Expr(e); got != "" || err != api.ErrArg {
		t.Errorf("Expr of %s = %q, %d", what, got, err)
	}
	wantNoStmt(t, what, api.Stmt{Op: api.SEmit, Args: []api.Expr{e}})
}

// TestP31NoExpr checks expressions that are those of no source.
func TestP31NoExpr(t *testing.T) {
	x := api.Expr{Op: api.EName, S: "x"}
	for what, e := range map[string]api.Expr{
		"nothing": {}, "operator 20": {Op: 20, Args: []api.Expr{x, x}}, "operator -1": {Op: -1},
		"-1": {Op: api.EInt, N: -1}, "a number that is too large": {Op: api.EInt, N: api.MaxInt + 1}, "a number with a text": {Op: api.EInt, S: "1"}, "a number with an operand": {Op: api.EInt, Args: []api.Expr{x}},
		"a bool 2": {Op: api.EBool, N: 2}, "a long text": {Op: api.EText, S: strings.Repeat("a", api.MaxText+1)}, "a line feed": {Op: api.EText, S: "\n"}, "a text with a number": {Op: api.EText, N: 1},
		"a word": {Op: api.EName, S: "let"}, "no name": {Op: api.EName}, "a long name": {Op: api.EName, S: "abcdefghijklm"}, "a slot": {Op: api.EName, S: "x", Slot: 1}, "a slot of a number": {Op: api.EInt, Slot: 1},
		"a not of nothing": {Op: api.ENot}, "a not of two": {Op: api.ENot, Args: []api.Expr{x, x}}, "a sum of one": {Op: api.EAdd, Args: []api.Expr{x}}, "a sum of three": {Op: api.EAdd, Args: []api.Expr{x, x, x}}, "a sum with a name": {Op: api.EAdd, S: "x", Args: []api.Expr{x, x}},
		"an operand": {Op: api.EAdd, Args: []api.Expr{x, {}}}, "an operand with a slot": {Op: api.ENot, Args: []api.Expr{{Op: api.EName, S: "x", Slot: 1}}},
	} {
		wantNoExpr(t, what, e)
	}
}

// TestP31NoStmt checks statements that are those of no source.
func TestP31NoStmt(t *testing.T) {
	x := []api.Expr{{Op: api.EName, S: "x"}}
	yield := []api.Stmt{{Op: api.SYield}}
	for what, s := range map[string]api.Stmt{
		"nothing": {}, "operator 30": {Op: 30}, "a let without a name": {Op: api.SLet, Args: x}, "a let with a slot": {Op: api.SLet, Name: "x", Slot: 1, Args: x}, "a call with an index": {Op: api.SCall, Fn: "f", Index: 1},
		"a let with a block": {Op: api.SLet, Name: "x", Args: x, Body: yield}, "an else without a flag": {Op: api.SIf, Args: x, Other: yield}, "a try with neither part": {Op: api.STry}, "a catch without a name": {Op: api.STry, Flag: 1},
		"a select without cases": {Op: api.SSelect}, "a case that is none": {Op: api.SSelect, Cases: []api.Case{{}}}, "an else that is not the last": {Op: api.SSelect, Cases: []api.Case{{Op: api.CElse}, {Op: api.CAfter, Args: x}}}, "a case with a slot": {Op: api.SSelect, Cases: []api.Case{{Op: api.CElse, Slot: 1}}},
		"five cases":     {Op: api.SSelect, Cases: []api.Case{{Op: api.CAfter, Args: x}, {Op: api.CAfter, Args: x}, {Op: api.CAfter, Args: x}, {Op: api.CAfter, Args: x}, {Op: api.CAfter, Args: x}}},
		"a buffer of 17": {Op: api.SEach, Name: "x", Fn: "f", Flag: 68}, "a policy 3": {Op: api.SChan, Name: "x", Args: x, Flag: 3}, "a statement in it": {Op: api.SShield, Body: []api.Stmt{{}}},
	} {
		wantNoStmt(t, what, s)
	}
}

// TestP31NoProgram checks programs that are those of no source, for another reason than a statement.
func TestP31NoProgram(t *testing.T) {
	param := func(n int) []api.Param { return make([]api.Param, n) }
	for what, p := range map[string]api.Program{
		"nothing": {}, "no name": {Funcs: []api.Func{{}}}, "a word": {Funcs: []api.Func{{Name: "emit"}}}, "a number of variables": {Funcs: []api.Func{{Name: "main", Vars: 1}}},
		"a flow with a result": {Funcs: []api.Func{{Name: "f", Flow: true, Result: api.KInt}}}, "a result 7": {Funcs: []api.Func{{Name: "f", Result: 7}}}, "empty parameters": {Funcs: []api.Func{{Name: "f", Params: param(1)}}}, "17 functions": {Funcs: make([]api.Func, 17)},
	} {
		wantNoProgram(t, what, p)
	}
}

// TestP31ExprLimits checks MaxDepth and MaxNodes, at the limit and one beyond, and that no length is too much.
func TestP31ExprLimits(t *testing.T) {
	deep := api.Expr{Op: api.EName, S: "x"}
	for range api.MaxDepth - 1 {
		deep = api.Expr{Op: api.ENot, Args: []api.Expr{deep}}
	}
	wantExpr(t, deep, strings.Repeat("!", api.MaxDepth-1)+"x")
	wantNoExpr(t, "too deep", api.Expr{Op: api.ENot, Args: []api.Expr{deep}})

	leaf := api.Expr{Op: api.EText, S: strings.Repeat(`"`, api.MaxText)}
	flat := bush(api.MaxNodes, leaf)
	long, err := Expr(flat)
	if err != api.OK || len(long) <= api.MaxSource {
		t.Errorf("Expr of %d nodes: %d bytes, %d", api.MaxNodes, len(long), err)
	}
	short := strings.ReplaceAll(long, `"`+strings.Repeat(`\"`, api.MaxText)+`"`, "x")
	wantExpr(t, bush(api.MaxNodes, api.Expr{Op: api.EName, S: "x"}), short)
	if got := parsedExpr(t, short); !sameExpr(got, bush(api.MaxNodes, api.Expr{Op: api.EName, S: "x"})) {
		t.Errorf("%s is read as %v", short, got)
	}
	wantNoExpr(t, "too many nodes", bush(api.MaxNodes+1, leaf))
}

// bush is an expression of n nodes that is as flat as it can be.
func bush(n int, leaf api.Expr) api.Expr {
	switch n {
	case 1:
		return leaf
	case 2:
		return api.Expr{Op: api.ENeg, Args: []api.Expr{leaf}}
	}
	left := (n - 1) / 2
	return api.Expr{Op: api.EAdd, Args: []api.Expr{bush(left, leaf), bush(n-1-left, leaf)}}
}

// TestP31StmtLimits does so for statements and programs.
func TestP31StmtLimits(t *testing.T) {
	deep := api.Stmt{Op: api.SYield}
	for range api.MaxDepth - 1 {
		deep = api.Stmt{Op: api.SShield, Body: []api.Stmt{deep}}
	}
	want := strings.Repeat("  ", api.MaxDepth-1) + "yield;\n"
	if got, err := Stmt(deep); !strings.Contains(got, "\n"+want) || strings.Count(got, "\n") != 2*api.MaxDepth-1 || err != api.OK {
		t.Errorf("Stmt = %q, %d", got, err)
	}
	wantNoStmt(t, "too deep", api.Stmt{Op: api.SShield, Body: []api.Stmt{deep}})

	many := api.Stmt{Op: api.SCall, Fn: "f", Args: make([]api.Expr, api.MaxNodes-2)}
	for i := range many.Args {
		many.Args[i] = api.Expr{Op: api.EText, S: "a long text"}
	}
	p := api.Program{Funcs: []api.Func{{Name: "f", Body: []api.Stmt{many}}}}
	text, err := Text(p)
	if err != api.OK || len(text) <= api.MaxSource {
		t.Errorf("Text: %d bytes, %d", len(text), err)
	}
	if _, _, err := syntax.Parse(text); err != api.ErrFull {
		t.Errorf("Parse of %d bytes: %d", len(text), err)
	}
	if _, err := Stmt(many); err != api.OK {
		t.Errorf("Stmt: %d", err)
	}
	many.Args = append(many.Args, many.Args[0])
	wantNoStmt(t, "too many nodes", many)
}

// TestP31AnyArguments checks what contains itself or is far too large.
func TestP31AnyArguments(t *testing.T) {
	ring := []api.Expr{{Op: api.ENot}}
	ring[0].Args = ring
	wantNoExpr(t, "a ring", ring[0])
	body := []api.Stmt{{Op: api.SShield}, {Op: api.SShield}}
	body[0].Body, body[1].Body = body, body
	wantNoStmt(t, "a ring", body[0])
	bush := []api.Expr{{Op: api.EInt}, {Op: api.EInt}}
	for range 100 {
		both := api.Expr{Op: api.EAdd, Args: bush}
		bush = []api.Expr{both, both}
	}
	wantNoExpr(t, "a bush", bush[0])
	wantNoExpr(t, "many operands", api.Expr{Op: api.EAdd, Args: make([]api.Expr, 1<<20)})
	wantNoStmt(t, "many statements", api.Stmt{Op: api.SShield, Body: make([]api.Stmt, 1<<20)})
	wantNoProgram(t, "many functions", api.Program{Funcs: make([]api.Func, 1<<20)})
}
