package syntax

import (
	"math/rand/v2"
	"reflect"
	"strings"
	"testing"

	"seedbed/api"
)

func parsed(t *testing.T, source string) api.Program {
	t.Helper()
	p, at, err := Parse(source)
	if err != api.OK {
		t.Fatalf("Parse(%q): %d at %d", source, err, at)
	}
	return p
}

// wantMisfit checks that no function takes a program that is not well formed.
func wantMisfit(t *testing.T, what string, p api.Program) {
	t.Helper()
	if err := Check(p); err != api.ErrArg {
		t.Errorf("Check of %s: %d", what, err)
	}
	if n, err := Nodes(p); n != 0 || err != api.ErrArg {
		t.Errorf("Nodes of %s: %d, %d", what, n, err)
	}
	if n, err := Depth(p); n != 0 || err != api.ErrArg {
		t.Errorf("Depth of %s: %d, %d", what, n, err)
	}
	if q, err := Clone(p); len(q.Funcs) != 0 || err != api.ErrArg {
		t.Errorf("Clone of %s: %v, %d", what, q, err)
	}
}

// TestP22Measures checks Nodes and Depth.
func TestP22Measures(t *testing.T) {
	for source, want := range map[string][2]int{
		"fn main() { }": {1, 0},
		"fn main() { } fn f(x int, y bool) flow { }":                              {2, 0},
		"fn main() { yield; }":                                                    {2, 1},
		"fn main() { emit 1; }":                                                   {3, 2},
		"fn main() { emit 1 + 2 * 3; }":                                           {7, 4},
		"fn main() { emit ((1)); }":                                               {3, 2},
		"fn main() { f(1, -2); }":                                                 {5, 3},
		"fn main() { if x { yield; } else { emit 1; } }":                          {6, 3},
		"fn main() { if x { } else if y { yield; } }":                             {6, 3},
		"fn main() { select { after 1 { } } }":                                    {4, 3},
		"fn main() { select { send x, 1 { yield; } else { } } }":                  {7, 3},
		"fn main() { select { else { emit 1; } } }":                               {5, 4},
		"fn main() { try { } catch x { yield; } finally { shield { emit 1; } } }": {6, 4},
		"fn f() { scope within 1 { while x { } } } fn g() { yield; }":             {7, 3},
	} {
		p := parsed(t, source)
		n, err := Nodes(p)
		d, err2 := Depth(p)
		if n != want[0] || d != want[1] || err != api.OK || err2 != api.OK {
			t.Errorf("%s: %d nodes, %d, depth %d, %d", source, n, err, d, err2)
		}
	}
}

// TestP22Fields spoils each field of each part of a program.
func TestP22Fields(t *testing.T) {
	p := parsed(t, everything)
	spoilt := 0
	eachField(reflect.ValueOf(&p).Elem(), "", func(path string, undo func()) {
		spoilt++
		wantMisfit(t, path, p)
		undo()
		if Check(p) != api.OK {
			t.Fatalf("%s is still spoilt", path)
		}
	})
	if spoilt < 1000 {
		t.Errorf("only %d fields", spoilt)
	}
}

// eachField gives each number and string of a value something that is right nowhere, and calls tell.
func eachField(v reflect.Value, path string, tell func(path string, undo func())) {
	switch v.Kind() {
	case reflect.Struct:
		for i := range v.NumField() {
			eachField(v.Field(i), path+"."+v.Type().Field(i).Name, tell)
		}
	case reflect.Slice:
		for i := range v.Len() {
			eachField(v.Index(i), path+"."+string(rune('0'+i)), tell)
		}
	case reflect.Int:
		old := v.Int()
		for _, n := range []int64{-1, 1 << 62, -1 << 63} {
			v.SetInt(n)
			tell(path, func() { v.SetInt(old) })
		}
	case reflect.String:
		old := v.String()
		for _, s := range []string{"\n", strings.Repeat("a", 100)} {
			v.SetString(s)
			tell(path, func() { v.SetString(old) })
		}
	}
}

// TestP22Misfits checks programs that are nearly well formed.
func TestP22Misfits(t *testing.T) {
	x, one := called("x"), number(1)
	empty := stmts(api.Stmt{Op: api.SYield})
	for what, s := range map[string]api.Stmt{
		"no operator": {}, "operator 30": {Op: 30}, "let without name": {Op: api.SLet, Args: exprs(x)}, "let of a word": {Op: api.SLet, Name: "let", Args: exprs(x)},
		"let of nothing": {Op: api.SLet, Name: "x"}, "let of two": {Op: api.SLet, Name: "x", Args: exprs(x, x)}, "let with slot": {Op: api.SLet, Name: "x", Slot: 1, Args: exprs(x)},
		"let with function": {Op: api.SLet, Name: "x", Fn: "f", Args: exprs(x)}, "let with block": {Op: api.SLet, Name: "x", Args: exprs(x), Body: empty}, "let with flag": {Op: api.SLet, Name: "x", Args: exprs(x), Flag: 1},
		"set without name": {Op: api.SSet, Args: exprs(x)}, "call of nothing": {Op: api.SCall}, "call of a word": {Op: api.SCall, Fn: "if"}, "call with index": {Op: api.SCall, Fn: "f", Index: 1}, "call with flag": {Op: api.SSpawn, Fn: "f", Flag: 1},
		"await with flag": {Op: api.SAwait, Name: "x", Args: exprs(x), Flag: 1}, "receive else break without name": {Op: api.SReceive, Args: exprs(x), Flag: 1}, "receive with flag 2": {Op: api.SReceive, Name: "x", Args: exprs(x), Flag: 2},
		"chan without name": {Op: api.SChan, Args: exprs(x)}, "chan with flag 3": {Op: api.SChan, Name: "x", Args: exprs(x), Flag: 3}, "lock without name": {Op: api.SLock, Args: exprs(x)}, "now without name": {Op: api.SNow}, "now of one": {Op: api.SNow, Name: "x", Args: exprs(x)},
		"send of one": {Op: api.SSend, Args: exprs(x)}, "send of three": {Op: api.SSend, Args: exprs(x, x, x)}, "named send": {Op: api.SSend, Name: "x", Args: exprs(x, x)}, "yield of one": {Op: api.SYield, Args: exprs(x)}, "named emit": {Op: api.SEmit, Name: "x", Args: exprs(x)},
		"return of two": {Op: api.SReturn, Args: exprs(x, x)}, "break with block": {Op: api.SBreak, Body: empty}, "if of nothing": {Op: api.SIf}, "if with else without flag": {Op: api.SIf, Args: exprs(x), Other: empty}, "if with flag 2": {Op: api.SIf, Args: exprs(x), Flag: 2},
		"if with last": {Op: api.SIf, Args: exprs(x), Flag: 1, Last: empty}, "while with else": {Op: api.SWhile, Args: exprs(x), Other: empty}, "scope of two": {Op: api.SScope, Args: exprs(x, x)}, "scope with flag 2": {Op: api.SScope, Flag: 2}, "shield of one": {Op: api.SShield, Args: exprs(x)},
		"try alone": {Op: api.STry}, "try with flag 4": {Op: api.STry, Flag: 4}, "catch without name": {Op: api.STry, Flag: 1}, "finally with name": {Op: api.STry, Flag: 2, Name: "x"}, "finally with other": {Op: api.STry, Flag: 2, Other: empty}, "catch with last": {Op: api.STry, Flag: 1, Name: "x", Last: empty}, "both without name": {Op: api.STry, Flag: 3},
		"try of one": {Op: api.STry, Flag: 2, Args: exprs(x)}, "use without name": {Op: api.SUse, Args: exprs(x)}, "named hold": {Op: api.SHold, Name: "x", Args: exprs(x)}, "each without name": {Op: api.SEach, Fn: "f"}, "each without function": {Op: api.SEach, Name: "x"}, "each with policy 3": {Op: api.SEach, Name: "x", Fn: "f", Flag: 7},
		"each with buffer 17": {Op: api.SEach, Name: "x", Fn: "f", Flag: 68}, "each with buffer 16 and policy 3": {Op: api.SEach, Name: "x", Fn: "f", Flag: 67}, "produce of nothing": {Op: api.SProduce}, "yield with case": {Op: api.SYield, Cases: []api.Case{{Op: api.CElse}}},
		"select of nothing": {Op: api.SSelect}, "select with block": {Op: api.SSelect, Body: empty, Cases: []api.Case{{Op: api.CElse}}}, "select of one": {Op: api.SSelect, Args: exprs(x), Cases: []api.Case{{Op: api.CElse}}},
		"else first": {Op: api.SSelect, Cases: []api.Case{{Op: api.CElse}, {Op: api.CAfter, Args: exprs(one)}}}, "two else": {Op: api.SSelect, Cases: []api.Case{{Op: api.CElse}, {Op: api.CElse}}}, "case 0": {Op: api.SSelect, Cases: []api.Case{{}}}, "case 5": {Op: api.SSelect, Cases: []api.Case{{Op: 5}}},
		"else of one": {Op: api.SSelect, Cases: []api.Case{{Op: api.CElse, Args: exprs(x)}}}, "named else": {Op: api.SSelect, Cases: []api.Case{{Op: api.CElse, Name: "x"}}}, "case with slot": {Op: api.SSelect, Cases: []api.Case{{Op: api.CElse, Slot: 1}}}, "after of two": {Op: api.SSelect, Cases: []api.Case{{Op: api.CAfter, Args: exprs(x, x)}}},
		"named after": {Op: api.SSelect, Cases: []api.Case{{Op: api.CAfter, Name: "x", Args: exprs(x)}}}, "receive without name": {Op: api.SSelect, Cases: []api.Case{{Op: api.CReceive, Args: exprs(x)}}}, "case send of one": {Op: api.SSelect, Cases: []api.Case{{Op: api.CSend, Args: exprs(x)}}}, "named case send": {Op: api.SSelect, Cases: []api.Case{{Op: api.CSend, Name: "x", Args: exprs(x, x)}}},
		"wrong in body": {Op: api.SShield, Body: stmts(api.Stmt{})}, "wrong in other": {Op: api.SIf, Args: exprs(x), Flag: 1, Other: stmts(api.Stmt{})}, "wrong in last": {Op: api.STry, Flag: 2, Last: stmts(api.Stmt{})}, "wrong in case": {Op: api.SSelect, Cases: []api.Case{{Op: api.CElse, Body: stmts(api.Stmt{})}}},
	} {
		wantMisfit(t, what, mainOf(s))
	}
}

// TestP22ExprMisfits checks expressions that are those of no source.
func TestP22ExprMisfits(t *testing.T) {
	x, one := called("x"), number(1)
	for what, e := range map[string]api.Expr{
		"no operator": {}, "operator 20": {Op: 20, Args: exprs(x, x)}, "below zero": number(-1), "beyond MaxInt": number(api.MaxInt + 1), "numeral with text": {Op: api.EInt, S: "1"}, "numeral of one": of(api.EInt, x), "truth 2": {Op: api.EBool, N: 2}, "truth with text": {Op: api.EBool, S: "true"}, "truth of one": of(api.EBool, x),
		"text with number": {Op: api.EText, N: 1, S: "a"}, "text of one": {Op: api.EText, Args: exprs(x)}, "long text": text(strings.Repeat("a", api.MaxText+1)), "text with a line feed": text("\n"), "no name": called(""), "word": called("true"), "long name": called("abcdefghijklm"), "name with slot": {Op: api.EName, S: "x", Slot: 1}, "name with number": {Op: api.EName, S: "x", N: 1}, "name of one": {Op: api.EName, S: "x", Args: exprs(x)},
		"not of nothing": of(api.ENot), "not of two": of(api.ENot, x, x), "neg of two": of(api.ENeg, one, one), "or of one": of(api.EOr, x), "rem of three": of(api.ERem, one, one, one), "sum with number": {Op: api.EAdd, N: 1, Args: exprs(one, one)}, "sum with text": {Op: api.EAdd, S: "+", Args: exprs(one, one)}, "sum with slot": {Op: api.EAdd, Slot: 1, Args: exprs(one, one)}, "wrong operand": of(api.EAdd, one, api.Expr{}),
	} {
		wantMisfit(t, what, mainOf(api.Stmt{Op: api.SEmit, Args: exprs(e)}))
		wantMisfit(t, what, mainOf(api.Stmt{Op: api.SSelect, Cases: []api.Case{{Op: api.CAfter, Args: exprs(e)}}}))
	}
}

// TestP22FuncMisfits checks functions that are those of no source.
func TestP22FuncMisfits(t *testing.T) {
	wantMisfit(t, "no function", api.Program{})
	param := func(name string, kind int) []api.Param { return []api.Param{{Name: name, Kind: kind}} }
	for what, f := range map[string]api.Func{
		"no name": {}, "word": {Name: "fn"}, "long name": {Name: "abcdefghijklm"}, "variables": {Name: "f", Vars: 1}, "result 7": {Name: "f", Result: 7}, "result -1": {Name: "f", Result: -1}, "flow with result": {Name: "f", Flow: true, Result: api.KInt},
		"parameter without name": {Name: "f", Params: param("", api.KInt)}, "parameter of a word": {Name: "f", Params: param("int", api.KInt)}, "parameter without kind": {Name: "f", Params: param("x", api.KUnit)}, "parameter of kind 7": {Name: "f", Params: param("x", 7)},
	} {
		wantMisfit(t, what, api.Program{Funcs: []api.Func{f}})
		wantMisfit(t, what, api.Program{Funcs: []api.Func{{Name: "main"}, f}})
	}
}

// TestP22Same checks that Same compares all fields, whatever the programs are.
func TestP22Same(t *testing.T) {
	p, q := parsed(t, everything), parsed(t, everything)
	if !Same(p, q) || !Same(api.Program{}, api.Program{Funcs: []api.Func{}}) || Same(p, api.Program{}) || Same(api.Program{}, p) {
		t.Error("Same of a program and the same one")
	}
	eachField(reflect.ValueOf(&p).Elem(), "", func(path string, undo func()) {
		if Same(p, q) || Same(q, p) || !Same(p, p) {
			t.Errorf("Same with another %s", path)
		}
		undo()
	})
	flow := api.Program{Funcs: []api.Func{{Name: "main", Flow: true}}}
	if Same(flow, mainOf()) || !Same(flow, flow) {
		t.Error("Same with a flow")
	}
	none := mainOf(api.Stmt{Op: 99, Args: []api.Expr{}, Body: []api.Stmt{}, Other: []api.Stmt{}, Last: []api.Stmt{}, Cases: []api.Case{}})
	if !Same(none, mainOf(api.Stmt{Op: 99})) || !Same(mainOf(api.Stmt{Op: 99}), none) {
		t.Error("Same with empty lists")
	}
	yield := api.Stmt{Op: api.SYield}
	for _, s := range []api.Stmt{{Args: exprs(number(1))}, {Body: stmts(yield)}, {Other: stmts(yield)}, {Last: stmts(yield)}, {Cases: []api.Case{{}}}} {
		if Same(mainOf(s), mainOf(api.Stmt{})) || Same(mainOf(api.Stmt{}), mainOf(s)) || !Same(mainOf(s), mainOf(s)) {
			t.Errorf("Same with %v", s)
		}
	}
}

// TestP22Clone checks that a clone is equal and shares no memory, and that Check takes empty lists.
func TestP22Clone(t *testing.T) {
	p, want := parsed(t, everything), parsed(t, everything)
	q, err := Clone(p)
	if err != api.OK || !Same(p, q) {
		t.Fatalf("Clone = %v, %d", q, err)
	}
	eachField(reflect.ValueOf(&q).Elem(), "", func(path string, undo func()) {
		if !Same(p, want) {
			t.Errorf("%s is shared", path)
		}
	})
	empty := mainOf(api.Stmt{Op: api.SYield, Args: []api.Expr{}, Body: []api.Stmt{}, Other: []api.Stmt{}, Last: []api.Stmt{}, Cases: []api.Case{}})
	if r, err := Clone(empty); err != api.OK || Check(empty) != api.OK || !Same(r, empty) {
		t.Errorf("Clone of empty lists = %v, %d", r, err)
	}
}

// TestP22AnyArguments checks programs that are deep, wide or contain themselves.
func TestP22AnyArguments(t *testing.T) {
	deepExpr, deepStmt := number(1), api.Stmt{Op: api.SYield}
	for range 1 << 16 {
		deepExpr = of(api.ENot, deepExpr)
		deepStmt = api.Stmt{Op: api.SShield, Body: stmts(deepStmt)}
	}
	for _, s := range []api.Stmt{deepStmt, {Op: api.SEmit, Args: exprs(deepExpr)}, {Op: api.SCall, Fn: "f", Args: make([]api.Expr, 1<<20)}} {
		p := mainOf(s)
		wantMisfit(t, "too much", p)
		if !Same(p, p) || Same(p, mainOf()) {
			t.Error("Same of too much")
		}
	}
	ring := exprs(of(api.ENot, number(1)))
	ring[0].Args = ring
	wantMisfit(t, "a ring", mainOf(api.Stmt{Op: api.SEmit, Args: ring}))
	body := stmts(api.Stmt{Op: api.SShield})
	body[0].Body = body
	wantMisfit(t, "a ring of statements", mainOf(body...))
	wantMisfit(t, "many functions", api.Program{Funcs: make([]api.Func, 1<<20)})
	bush := exprs(number(1), number(1))
	for range 100 {
		bush = exprs(of(api.EAdd, bush...), of(api.EAdd, bush...))
	}
	wantMisfit(t, "a bush", mainOf(api.Stmt{Op: api.SSend, Args: bush}))
}

// isProgram reports whether a program is that of what maker writes for it.
func isProgram(m *maker, p api.Program) (is bool) {
	defer func() {
		if recover() != nil { // what it has cannot be written
			is = false
		}
	}()
	q, _, err := Parse(m.write(p))
	return err == api.OK && Same(p, q)
}

// TestP22Shapes gives each statement and case each combination of parts, and compares Check with Parse.
func TestP22Shapes(t *testing.T) {
	m := &maker{r: rand.New(rand.NewPCG(2, 2))}
	args := exprs(number(1), called("x"), number(2))
	yield := stmts(api.Stmt{Op: api.SYield})
	right := 0
	try := func(s api.Stmt) {
		p := mainOf(s)
		is := isProgram(m, p)
		if is {
			right++
		}
		if (Check(p) == api.OK) != is {
			t.Errorf("Check(%v): %d", p, Check(p))
		}
	}
	flags := []int{-1, 0, 1, 2, 3, 4, 66, 67, 68}
	for i := range 31 * 4 * 4 * len(flags) * 16 {
		parts := i % 16
		flag := flags[i/16%len(flags)]
		i = i / 16 / len(flags)
		s := api.Stmt{Op: i / 16, Flag: flag, Args: args[:i%4]}
		if i&4 != 0 {
			s.Name = "x"
		}
		if i&8 != 0 {
			s.Fn = "f"
		}
		for j, list := range []*[]api.Stmt{&s.Body, &s.Other, &s.Last} {
			if parts>>j&1 != 0 {
				*list = yield
			}
		}
		if parts&8 != 0 {
			s.Cases = []api.Case{{Op: api.CElse}}
		}
		try(s)
	}
	for i := range 7 * 4 * 2 * 2 {
		k := api.Case{Op: i/16 - 1, Args: args[:i%4]}
		if i&4 != 0 {
			k.Name = "x"
		}
		if i&8 != 0 {
			k.Body = yield
		}
		try(api.Stmt{Op: api.SSelect, Cases: []api.Case{k}})
		try(api.Stmt{Op: api.SSelect, Cases: []api.Case{k, k}})
	}
	if right < 100 {
		t.Errorf("only %d statements are right", right)
	}
}
