package shape

import (
	"reflect"
	"strings"
	"testing"

	"seedbed/api"
)

func variable(name string, args ...api.Expr) api.Expr {
	return api.Expr{Op: api.EName, S: name, Args: args}
}

func called(fn string, args ...api.Expr) api.Stmt {
	return api.Stmt{Op: api.SCall, Fn: fn, Args: args}
}

// nested has statements in all parts of a statement, and expressions in expressions.
func nested() []api.Stmt {
	inner := api.Stmt{Op: api.STry, Fn: "b", Args: []api.Expr{variable("x", variable("y"), variable("z"))}, Body: []api.Stmt{called("c", variable("u"))}, Other: []api.Stmt{called("d")}, Last: []api.Stmt{called("e")}}
	inner.Cases = []api.Case{{Args: []api.Expr{variable("v", variable("w"))}, Body: []api.Stmt{called("f")}}, {Args: []api.Expr{variable("k")}, Body: []api.Stmt{called("g")}}}
	return []api.Stmt{called("a"), inner, called("h")}
}

// TestVisits checks the order of Stmts and Exprs, and that they stop anywhere.
func TestVisits(t *testing.T) {
	list := nested()
	for most := range 9 {
		got := ""
		for s := range Stmts(list) {
			got += s.Fn
			if len(got) > most {
				break
			}
		}
		if want := "abcdefgh"; got != want[:min(most+1, len(want))] {
			t.Errorf("Stmts visits %s", got)
		}
		got = ""
		for e := range Exprs(&list[1]) {
			got += e.S
			if len(got) > most {
				break
			}
		}
		if want := "xyzvwk"; got != want[:min(most+1, len(want))] {
			t.Errorf("Exprs visits %s", got)
		}
	}
}

// TestVisitsInPlace checks that what is visited can be changed, and that a clone is not changed with it.
func TestVisitsInPlace(t *testing.T) {
	p := api.Program{Funcs: []api.Func{{Name: "main", Params: []api.Param{{Name: "q"}}, Body: nested()}}}
	q := Clone(p)
	q.Funcs[0].Params[0].Name = "r"
	for s := range Stmts(q.Funcs[0].Body) {
		s.Slot = 1
		for e := range Exprs(s) {
			e.Slot = 1
		}
	}
	for s := range Stmts(p.Funcs[0].Body) {
		for e := range Exprs(s) {
			if s.Slot != 0 || e.Slot != 0 || p.Funcs[0].Params[0].Name != "q" {
				t.Error("a clone shares memory")
			}
		}
	}
	for s := range Stmts(q.Funcs[0].Body) {
		for e := range Exprs(s) {
			if s.Slot != 1 || e.Slot != 1 {
				t.Error("a change is lost")
			}
		}
	}
}

// TestChecks checks which programs and expressions are taken with slots.
func TestChecks(t *testing.T) {
	emit := api.Stmt{Op: api.SEmit, Args: []api.Expr{variable("x")}}
	bare := api.Program{Funcs: []api.Func{{Name: "main", Body: []api.Stmt{emit}}}}
	slotted := Clone(bare)
	slotted.Funcs[0].Body[0].Args[0].Slot = -3
	if nodes, depth, err := Program(bare); nodes != 3 || depth != 2 || err != api.OK || ButForSlots(bare) != api.OK {
		t.Errorf("Program = %d, %d, %d", nodes, depth, err)
	}
	if nodes, depth, err := Program(slotted); nodes != 0 || depth != 0 || err != api.ErrArg || ButForSlots(slotted) != api.OK {
		t.Errorf("Program with a slot = %d, %d, %d", nodes, depth, err)
	}
	if Expr(variable("x")) != api.OK || Expr(slotted.Funcs[0].Body[0].Args[0]) != api.ErrArg || ButForSlots(api.Program{}) != api.ErrArg {
		t.Error("Expr, ButForSlots")
	}
	if ExprButForSlots(slotted.Funcs[0].Body[0].Args[0]) != api.OK || ExprButForSlots(variable("x")) != api.OK || ExprButForSlots(variable("let")) != api.ErrArg || ExprButForSlots(api.Expr{Slot: 1}) != api.ErrArg {
		t.Error("ExprButForSlots")
	}
	if !IsName("x1") || IsName("let") || IsName(strings.Repeat("x", api.MaxName+1)) {
		t.Error("IsName")
	}
}

// TestValid checks which values are valid.
func TestValid(t *testing.T) {
	for want, list := range map[bool][]api.Value{
		true: {{}, {Kind: api.KInt}, {Kind: api.KInt, N: api.MaxInt}, {Kind: api.KInt, N: -api.MaxInt}, {Kind: api.KBool}, {Kind: api.KBool, N: 1}, {Kind: api.KText}, {Kind: api.KText, S: " ~"}, {Kind: api.KText, S: strings.Repeat("x", api.MaxText)},
			{Kind: api.KChan, N: 1}, {Kind: api.KTask, N: 1}, {Kind: api.KLock, N: 1}, {Kind: api.KChan, N: api.MaxInt}, {Kind: api.KTask, N: api.MaxInt}, {Kind: api.KLock, N: api.MaxInt}},
		false: {{N: 1}, {N: -1}, {S: "x"}, {Kind: api.KInt, N: api.MaxInt + 1}, {Kind: api.KInt, N: -api.MaxInt - 1}, {Kind: api.KInt, S: "x"}, {Kind: api.KBool, N: 2}, {Kind: api.KBool, N: -1}, {Kind: api.KBool, S: "x"}, {Kind: api.KText, N: 1}, {Kind: api.KText, S: "\x1f"}, {Kind: api.KText, S: "\x7f"}, {Kind: api.KText, S: strings.Repeat("x", api.MaxText+1)},
			{Kind: api.KChan}, {Kind: api.KTask}, {Kind: api.KLock}, {Kind: api.KChan, N: -1}, {Kind: api.KTask, N: api.MaxInt + 1}, {Kind: api.KLock, N: 1, S: "x"}, {Kind: -1, N: 1}, {Kind: api.KLock + 1, N: 1}},
	} {
		for _, v := range list {
			if Valid(v) != want {
				t.Errorf("Valid(%v) is not %t", v, want)
			}
		}
	}
}

// TestBare checks that all slots are taken away, from a copy.
func TestBare(t *testing.T) {
	slotted := func() api.Program {
		p := api.Program{Funcs: []api.Func{{Name: "main", Vars: 3, Body: nested()}}}
		for s := range Stmts(p.Funcs[0].Body) {
			s.Slot, s.Index = 1, 2
			for i := range s.Cases {
				s.Cases[i].Slot = 3
			}
			for e := range Exprs(s) {
				e.Slot = 4
			}
		}
		return p
	}
	p := slotted()
	if bare := (api.Program{Funcs: []api.Func{{Name: "main", Body: nested()}}}); !reflect.DeepEqual(Bare(p), bare) {
		t.Errorf("Bare = %v, want %v", Bare(p), bare)
	}
	if !reflect.DeepEqual(p, slotted()) {
		t.Error("Bare changes its argument")
	}
}

// TestTexts checks that values are written and read.
func TestTexts(t *testing.T) {
	for text, v := range map[string]api.Value{"unit": {}, "-5": {Kind: api.KInt, N: -5}, "true": {Kind: api.KBool, N: 1}, "false": {Kind: api.KBool}, `"a\"\\"`: {Kind: api.KText, S: `a"\`}, "chan#1": {Kind: api.KChan, N: 1}, "task#2": {Kind: api.KTask, N: 2}, "lock#3": {Kind: api.KLock, N: 3}} {
		if got := Show(v); got != text {
			t.Errorf("Show(%v) = %s, want %s", v, got, text)
		}
		if got, ok := Read(text); got != v || !ok {
			t.Errorf("Read(%s) = %v, %t", text, got, ok)
		}
	}
	for _, text := range []string{"", "-0", "05", `"`, `"\a"`, "chan#0", "unit "} {
		if got, ok := Read(text); got != (api.Value{}) || ok {
			t.Errorf("Read(%s) = %v, %t", text, got, ok)
		}
	}
}
