package eval

import (
	"math"
	"strconv"
	"strings"
	"testing"

	"seedbed/api"
	"seedbed/syntax"
)

func name(slot int) api.Expr { return api.Expr{Op: api.EName, S: "x", Slot: slot} }

// operated is an operator of the variables with the first slots.
func operated(op, operands int) api.Expr {
	e := api.Expr{Op: op}
	for slot := range operands {
		e.Args = append(e.Args, name(slot))
	}
	return e
}

// parsed returns the expression of a source in which the variable a has the slot 0, b 1, and so on.
func parsed(t *testing.T, source string) api.Expr {
	t.Helper()
	e, at, err := syntax.ParseExpr(source)
	if err != api.OK {
		t.Fatalf("ParseExpr(%q): %d at %d", source, err, at)
	}
	giveSlots(&e)
	return e
}

func giveSlots(e *api.Expr) {
	if e.Op == api.EName {
		e.Slot = int(e.S[0] - 'a')
	}
	for i := range e.Args {
		giveSlots(&e.Args[i])
	}
}

// TestP71Binary checks all operators of two operands with all pairs of values, alone and in an expression.
func TestP71Binary(t *testing.T) {
	for op := api.EOr; op <= api.ERem; op++ {
		for _, v := range pool() {
			for _, w := range pool() {
				want, text := oracle(op, v, w)
				what := strconv.Itoa(op) + " of " + strconv.Itoa(v.N) + v.S + " and " + strconv.Itoa(w.N) + w.S
				got, f, err := Binary(op, v, w)
				wantOutcome(t, "Binary: "+what, got, f, err, want, text)
				got, f, err = Eval(operated(op, 2), []api.Value{v, w})
				wantOutcome(t, "Eval: "+what, got, f, err, want, text)
			}
		}
	}
}

// TestP71Unary checks both operators of one operand with all values, alone and in an expression.
func TestP71Unary(t *testing.T) {
	for op, kind := range map[int]int{api.ENot: api.KBool, api.ENeg: api.KInt} {
		for _, v := range pool() {
			want, text := api.Value{}, "kind"
			if v.Kind == kind {
				want, text = api.Value{Kind: kind, N: -v.N}, ""
			}
			if v.Kind == kind && op == api.ENot {
				want.N = 1 - v.N
			}
			what := strconv.Itoa(op) + " of " + strconv.Itoa(v.N) + v.S
			got, f, err := Unary(op, v)
			wantOutcome(t, "Unary: "+what, got, f, err, want, text)
			got, f, err = Eval(operated(op, 1), []api.Value{v})
			wantOutcome(t, "Eval: "+what, got, f, err, want, text)
		}
	}
}

// TestP71NoOperator checks numbers that are no operators, and values that are not valid.
func TestP71NoOperator(t *testing.T) {
	good := api.Value{Kind: api.KBool, N: 1}
	for op := -2; op < 30; op++ {
		unary, binary := op == api.ENot || op == api.ENeg, op >= api.EOr && op <= api.ERem
		if _, _, err := Unary(op, good); (err == api.OK) != unary {
			t.Errorf("Unary(%d): %d", op, err)
		}
		if _, _, err := Binary(op, good, good); (err == api.OK) != binary {
			t.Errorf("Binary(%d): %d", op, err)
		}
		for _, bad := range wrongValues() {
			v, f, err := Unary(op, bad)
			if err != api.ErrArg || v != (api.Value{}) || f != (api.Fault{}) {
				t.Errorf("Unary(%d, %v) = %v, %v, %d", op, bad, v, f, err)
			}
			for _, pair := range [][2]api.Value{{good, bad}, {bad, good}, {bad, bad}} {
				v, f, err := Binary(op, pair[0], pair[1])
				if err != api.ErrArg || v != (api.Value{}) || f != (api.Fault{}) {
					t.Errorf("Binary(%d, %v) = %v, %v, %d", op, pair, v, f, err)
				}
			}
		}
	}
	for _, op := range []int{math.MinInt, math.MaxInt} {
		_, _, err := Unary(op, good)
		if _, _, other := Binary(op, good, good); err != api.ErrArg || other != api.ErrArg {
			t.Errorf("operator %d: %d, %d", op, err, other)
		}
	}
}

// wantEval checks the value of an expression of a source, as Show has it, or its fault, behind a blank.
func wantEval(t *testing.T, source, want string, vars ...api.Value) {
	t.Helper()
	v, f, err := Eval(parsed(t, source), vars)
	got, _ := Show(v)
	if f != (api.Fault{}) {
		got = " " + f.Text
	}
	if got != want || err != api.OK || f.Text != "" && (v != api.Value{} || f.Kind != api.FThrow) {
		t.Errorf("Eval(%s) = %v, %v, %d, want %s", source, v, f, err, want)
	}
}

// TestP71Eval checks expressions, also the chapter's examples.
func TestP71Eval(t *testing.T) {
	for source, want := range map[string]string{
		"-7 / 2": "-3", "-7 % 2": "-1", "7 / -2": "-3", "7 % -2": "1", "false && 1 / 0 == 1": "false", "true && 1 / 0 == 1": " zero",
		"1 + 2 * 3": "7", "(1 + 2) * 3": "9", "10 - 3 - 2": "5", `"a" + "b" + "c"`: `"abc"`, "--5": "5", "!!true": "true", "1 < 2 == true": "true",
		"1000000000000": "1000000000000", "-1000000000000": "-1000000000000", "1000000000000 + 1": " big", "-1000000000000 - 1": " big", "1000000 * 1000000": "1000000000000", "1000001 * 1000000": " big", "-1000001 * 1000000": " big", "1000000000000 * 1000000000000": " big", "1000000000000 * 0": "0", "0 * 1000000000000": "0",
		`"a" < "b"`: "true", `"B" < "a"`: "true", `"" < "a"`: "true", `"a" < "ab"`: "true", `"10" < "9"`: "true",
	} {
		wantEval(t, source, want)
	}
}

// TestP71Order checks which operands are computed, and which fault is the first one.
func TestP71Order(t *testing.T) {
	for source, want := range map[string]string{
		"true || 1 / 0 == 1": "true", "false || 1 / 0 == 1": " zero", "1 / 0 == 1 || true": " zero", "1 / 0 == 1 && false": " zero", "true || 5": "true", "false && 5": "false", "false || 5": " kind", "true && 5": " kind",
		"5 || 1 / 0 == 1": " kind", "5 && 1 / 0 == 1": " kind", `"" || true`: " kind", "5 || true": " kind", "5 && false": " kind", "0 && false": " kind", "1 || true": " kind",
		`1 / 0 + ("a" + 1)`: " zero", `("a" + 1) + 1 / 0`: " kind", `"a" - 1 / 0`: " zero", "1 / 0 - true": " zero", "true / 0": " kind", `1 / 0 == "a"`: " zero", `1 == "a"`: " kind", "-(1 / 0)": " zero", "!(1 / 0)": " zero", "!(-true)": " kind",
		`"a" % 0`: " kind", "0 / 0": " zero", "0 % 0": " zero", `"a" * 1000000000000`: " kind", "1000000000000 * 2 / 0": " big", "1 / 0 * (1000000000000 * 2)": " zero",
		"true || a": "true", "false && a": "false", "false || a": " kind", "true && (false && a || true)": "true",
	} {
		wantEval(t, source, want, api.Value{})
	}
}

// TestP71Variables checks that a name has the value of its slot, whatever it is.
func TestP71Variables(t *testing.T) {
	vars := pool()
	for slot, v := range vars {
		got, f, err := Eval(name(slot), vars)
		wantOutcome(t, "Eval of a name", got, f, err, v, "")
	}
	one, two := api.Value{Kind: api.KInt, N: 1}, api.Value{Kind: api.KInt, N: 2}
	wantEval(t, "a - b", "-1", one, two)
	wantEval(t, "b - a", "1", one, two)
	wantEval(t, "a == a && a != b", "true", one, two)
	unit := api.Value{}
	wantEval(t, "a == b", "true", unit, unit)
	wantEval(t, "a != b", "false", unit, unit)
	// Slots of what is no name say nothing.
	got, f, err := Eval(api.Expr{Op: api.EInt, N: 3, Slot: 99}, nil)
	wantOutcome(t, "Eval of 3", got, f, err, api.Value{Kind: api.KInt, N: 3}, "")
	e := operated(api.EAdd, 2)
	e.Slot = -1
	got, f, err = Eval(e, []api.Value{one, two})
	wantOutcome(t, "Eval of a sum", got, f, err, api.Value{Kind: api.KInt, N: 3}, "")
}

// misfits returns expressions that are those of no source.
func misfits() []api.Expr {
	one := api.Expr{Op: api.EInt, N: 1}
	deep := one
	for range api.MaxDepth {
		deep = api.Expr{Op: api.ENeg, Args: []api.Expr{deep}}
	}
	loop := api.Expr{Op: api.ENeg, Args: make([]api.Expr, 1)}
	loop.Args[0] = loop
	return []api.Expr{
		{}, {Op: -1}, {Op: 20}, {Op: math.MinInt}, {Op: math.MaxInt}, {Op: api.EInt, N: -1}, {Op: api.EInt, N: api.MaxInt + 1}, {Op: api.EInt, S: "a"}, {Op: api.EInt, Args: []api.Expr{one}}, {Op: api.EBool, N: 2}, {Op: api.EBool, N: -1}, {Op: api.EBool, S: "a"}, {Op: api.EBool, Args: []api.Expr{one}},
		{Op: api.EText, S: "\n"}, {Op: api.EText, S: strings.Repeat("a", 61)}, {Op: api.EText, N: 1}, {Op: api.EText, Args: []api.Expr{one}}, {Op: api.EName}, {Op: api.EName, S: "if"}, {Op: api.EName, S: "x", N: 1}, {Op: api.EName, S: "x", Args: []api.Expr{one}}, {Op: api.EName, S: "abcdefghijklm"},
		{Op: api.ENot}, {Op: api.ENeg, Args: []api.Expr{one, one}}, {Op: api.ENeg, N: 1, Args: []api.Expr{one}}, {Op: api.EAdd, Args: []api.Expr{one}}, {Op: api.EAdd, Args: []api.Expr{one, one, one}}, {Op: api.EOr, S: "a", Args: []api.Expr{one, one}}, {Op: api.EAdd, Args: []api.Expr{one, {}}}, {Op: api.EOr, Args: []api.Expr{{Op: api.EBool, N: 1}, {Op: api.ENot}}},
		deep, loop, bush(10),
	}
}

// bush is a sum with 2^levels - 1 nodes.
func bush(levels int) api.Expr {
	if levels == 1 {
		return name(0)
	}
	return api.Expr{Op: api.EAdd, Args: []api.Expr{bush(levels - 1), bush(levels - 1)}}
}

// TestP71Errors checks expressions, slots and values that Eval does not take.
func TestP71Errors(t *testing.T) {
	one := api.Value{Kind: api.KInt, N: 1}
	wantWrong := func(e api.Expr, vars []api.Value) {
		t.Helper()
		if v, f, err := Eval(e, vars); err != api.ErrArg || v != (api.Value{}) || f != (api.Fault{}) {
			t.Errorf("Eval(%v, %v) = %v, %v, %d", e, vars, v, f, err)
		}
	}
	for _, e := range misfits() {
		wantWrong(e, []api.Value{one})
	}
	for _, slot := range []int{-1, 2, 3, math.MinInt, math.MaxInt} {
		wantWrong(name(slot), []api.Value{one, one})
		wantWrong(api.Expr{Op: api.EOr, Args: []api.Expr{{Op: api.EBool, N: 1}, name(slot)}}, []api.Value{one, one})
	}
	wantWrong(name(0), nil)
	for _, bad := range wrongValues() {
		wantWrong(api.Expr{Op: api.EInt}, []api.Value{bad})
		wantWrong(name(0), []api.Value{one, one, bad})
	}
	if v, f, err := Eval(bush(9), []api.Value{one}); v != (api.Value{Kind: api.KInt, N: 256}) || f != (api.Fault{}) || err != api.OK {
		t.Errorf("Eval of a bush = %v, %v, %d", v, f, err)
	}
}
