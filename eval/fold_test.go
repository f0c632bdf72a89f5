package eval

import (
	"math/rand/v2"
	"reflect"
	"slices"
	"testing"

	"seedbed/api"
	"seedbed/print"
)

// wantFold checks what the expression of a source is folded to.
func wantFold(t *testing.T, source, want string) {
	t.Helper()
	e, err := Fold(parsed(t, source))
	got, _ := print.Expr(noSlots(e))
	if got != want || err != api.OK {
		t.Errorf("Fold(%s) = %s, %d, want %s", source, got, err, want)
	}
}

func noSlots(e api.Expr) api.Expr {
	e.Slot = 0
	e.Args = slices.Clone(e.Args)
	for i, x := range e.Args {
		e.Args[i] = noSlots(x)
	}
	return e
}

// TestP73Fold checks what is folded, and what is not, also the chapter's examples.
func TestP73Fold(t *testing.T) {
	for source, want := range map[string]string{
		"a + (1 + 2)": "a + 3", "true || a": "true", "1 - 2": "-1", "a": "a", "5": "5", "-5": "-5", "0": "0", "-0": "0", "--5": "5", "---5": "-5", "--0": "0", "-a": "-a", "--a": "--a", "-(2 - 5)": "3", "0 - 5": "-5", "-5 - 5": "-10", "5 - -5": "10", "-5 * -5": "25", "-5 + 5": "0",
		"1 + 2 + a": "3 + a", "a + 1 + 2": "a + 1 + 2", "1 + a + 2": "1 + a + 2", `"a" + "b"`: `"ab"`, `"a" + ("b" + a)`: `"a" + ("b" + a)`, "7 / 2": "3", "7 % 2": "1", "-7 / 2": "-3", "-7 % 2": "-1",
		"!true": "false", "!!a": "!!a", "!(1 == 1)": "false", "1 == 2": "false", "1 != 2": "true", `"a" < "b"`: "true", "true == false": "false", "1 < 2": "true", "2 <= 2": "true", "1 > 2": "false", "-1 >= -2": "true", `"a" == "a"`: "true", "a == a": "a == a",
		"false || a": "a", "true && a": "a", "false && a": "false", "a || true": "a || true", "a && false": "a && false", "a || 1 == 1": "a || true", "false || false": "false", "true && false": "false", "true && true": "true", "true || false": "true", "false || 1 + 2 == a": "3 == a",
		"1 == 1 || a": "true", "1 == 2 || a && true": "a && true", "(true || a) && b": "b", "!(false && a) && b": "b", "(false || a) && b": "a && b", "(false || true) && b": "b", "true || 1 / 0 == 1": "true", "false && 1 / 0 == 1": "false",
		"1 / 0": "1 / 0", "1 % 0": "1 % 0", "1 + 1 / 0": "1 + 1 / 0", "1 + 1 + 1 / 0": "2 + 1 / 0", "1 / (1 - 1)": "1 / 0", "1000000000000 + 1": "1000000000000 + 1", "-1000000000000 - (0 + 1)": "-1000000000000 - 1", "1000000 * 1000001": "1000000 * 1000001", "false || 1 / 0 == 1": "1 / 0 == 1", "1 / 0 == 1 || true": "1 / 0 == 1 || true",
		`1 + "a"`: `1 + "a"`, "1 == true": "1 == true", "-true": "-true", "!5": "!5", `-"a"`: `-"a"`, "5 || true": "5 || true", "5 || 1 == 1": "5 || true", "5 && a": "5 && a", "true < false": "true < false", "!(1 + 2)": "!3", "-5 || true": "-5 || true",
		`"123456789012345678901234567890" + "123456789012345678901234567890"`:  `"123456789012345678901234567890123456789012345678901234567890"`,
		`"123456789012345678901234567890" + "1234567890123456789012345678901"`: `"123456789012345678901234567890" + "1234567890123456789012345678901"`,
	} {
		wantFold(t, source, want)
	}
}

// TestP73Slots checks that what remains keeps its slots, and that what is new has the slot 0.
func TestP73Slots(t *testing.T) {
	num := func(n, slot int) api.Expr { return api.Expr{Op: api.EInt, N: n, Slot: slot} }
	truth := func(n, slot int) api.Expr { return api.Expr{Op: api.EBool, N: n, Slot: slot} }
	op := func(op, slot int, args ...api.Expr) api.Expr { return api.Expr{Op: op, Slot: slot, Args: args} }
	for _, c := range []struct{ e, want api.Expr }{
		{num(5, 7), num(5, 7)},
		{name(-3), name(-3)},
		{op(api.ENeg, 4, num(5, 7)), op(api.ENeg, 4, num(5, 7))},
		{op(api.ENeg, 4, num(0, 7)), num(0, 0)},
		{op(api.EAdd, 4, num(1, 2), num(2, 3)), num(3, 0)},
		{op(api.ESub, 4, num(1, 2), num(2, 3)), op(api.ENeg, 0, num(1, 0))},
		{op(api.EAdd, 4, name(9), op(api.EAdd, 5, num(1, 2), num(2, 3))), op(api.EAdd, 4, name(9), num(3, 0))},
		{op(api.EAdd, 4, op(api.ENeg, 8, num(1, 6)), name(9)), op(api.EAdd, 4, op(api.ENeg, 8, num(1, 6)), name(9))},
		{op(api.EOr, 4, truth(1, 2), name(9)), truth(1, 2)},
		{op(api.EAnd, 4, truth(0, 2), name(9)), truth(0, 2)},
		{op(api.EOr, 4, truth(0, 2), name(9)), name(9)},
		{op(api.EAnd, 4, truth(1, 2), op(api.ENot, 3, name(9))), op(api.ENot, 3, name(9))},
		{op(api.EOr, 4, op(api.ENot, 3, truth(0, 2)), name(9)), truth(1, 0)},
		{op(api.EDiv, 4, num(1, 2), num(0, 3)), op(api.EDiv, 4, num(1, 2), num(0, 3))},
	} {
		if got, err := Fold(c.e); !reflect.DeepEqual(got, c.want) || err != api.OK {
			t.Errorf("Fold(%v) = %v, %d, want %v", c.e, got, err, c.want)
		}
	}
}

// TestP73Cost checks numbers of operators: a negative number is a constant.
func TestP73Cost(t *testing.T) {
	for source, want := range map[string]int{
		"5": 0, "a": 0, `"a"`: 0, "true": 0, "-a": 1, "!a": 1, "!true": 1, "1 + 2": 1, "1 + 2 * a": 2, "!(a == b) && c": 3, "--a": 2, "-5": 0, "-0": 1, "--5": 1, "---5": 2, "-5 + a": 1, "-true": 1, `-"a"`: 1, "-(1 + 2)": 2, "a || b && c < d": 3, "a - -1": 1,
	} {
		if got, err := Cost(parsed(t, source)); got != want || err != api.OK {
			t.Errorf("Cost(%s) = %d, %d, want %d", source, got, err, want)
		}
	}
	if got, err := Cost(bush(9)); got != 255 || err != api.OK {
		t.Errorf("Cost of a bush = %d, %d", got, err)
	}
}

// TestP73Errors checks expressions that are those of no source.
func TestP73Errors(t *testing.T) {
	for _, e := range misfits() {
		if got, err := Fold(e); !reflect.DeepEqual(got, api.Expr{}) || err != api.ErrArg {
			t.Errorf("Fold of a misfit = %v, %d", got, err)
		}
		if got, err := Cost(e); got != 0 || err != api.ErrArg {
			t.Errorf("Cost of a misfit = %d, %d", got, err)
		}
	}
}

// TestMemory checks that an expression that was folded shares no memory with what it was made of, and that this remains as it was.
func TestMemory(t *testing.T) {
	for _, source := range []string{"a + -5", "true && a + b", "a + (1 - 2)", "-5"} {
		e := parsed(t, source)
		got, _ := Fold(e)
		if !reflect.DeepEqual(e, parsed(t, source)) {
			t.Errorf("Fold changes %s", source)
		}
		want, _ := Fold(e)
		spoil(e.Args)
		if !reflect.DeepEqual(got, want) {
			t.Errorf("Fold of %s shares memory", source)
		}
	}
}

func spoil(list []api.Expr) {
	for i := range list {
		spoil(list[i].Args)
		list[i] = api.Expr{Op: -1}
	}
}

// makeExpr makes an expression of a kind, or with wild set of any, of the variables of sampleVars.
func makeExpr(r *rand.Rand, kind, depth int, wild bool) api.Expr {
	if wild {
		kind = 1 + r.IntN(3)
	}
	if depth == 0 || r.IntN(5) == 0 {
		switch n := r.IntN(3); {
		case n == 0:
			return name(kind - 1)
		case kind == api.KInt:
			return api.Expr{Op: api.EInt, N: []int{0, 1, 2, 1000000, api.MaxInt}[r.IntN(5)]}
		case kind == api.KBool:
			return api.Expr{Op: api.EBool, N: r.IntN(2)}
		}
		return api.Expr{Op: api.EText, S: []string{"", "a", "b", "0123456789012345678901234567890"}[r.IntN(4)]}
	}
	pair := func(op, kind int) api.Expr {
		return api.Expr{Op: op, Args: []api.Expr{makeExpr(r, kind, depth-1, wild), makeExpr(r, kind, depth-1, wild)}}
	}
	switch {
	case kind == api.KText:
		return pair(api.EAdd, api.KText)
	case kind == api.KInt && r.IntN(4) == 0:
		return api.Expr{Op: api.ENeg, Args: []api.Expr{makeExpr(r, api.KInt, depth-1, wild)}}
	case kind == api.KInt:
		return pair(api.EAdd+r.IntN(5), api.KInt)
	case r.IntN(5) == 0:
		return api.Expr{Op: api.ENot, Args: []api.Expr{makeExpr(r, api.KBool, depth-1, wild)}}
	case r.IntN(3) == 0:
		return pair(api.EOr+r.IntN(2), api.KBool)
	case r.IntN(3) == 0:
		return pair(api.EEq+r.IntN(2), 1+r.IntN(3))
	}
	return pair(api.ELt+r.IntN(4), 1+2*r.IntN(2))
}

func sampleVars(r *rand.Rand) []api.Value {
	return []api.Value{
		{Kind: api.KInt, N: []int{0, 1, -1, 7, api.MaxInt, -api.MaxInt}[r.IntN(6)]},
		{Kind: api.KBool, N: r.IntN(2)},
		{Kind: api.KText, S: []string{"", "a", "0123456789012345678901234567890"}[r.IntN(3)]},
	}
}

// oneFold replaces the first operator from outside that can be replaced, as the chapter says it, and reports whether there is one.
func oneFold(e api.Expr) (api.Expr, bool) {
	constants := len(e.Args) > 0
	for _, x := range e.Args {
		constants = constants && isConstantText(x)
	}
	switch {
	case (e.Op == api.EOr || e.Op == api.EAnd) && e.Args[0].Op == api.EBool:
		if (e.Args[0].N == 1) == (e.Op == api.EOr) {
			return e.Args[0], true
		}
		return e.Args[1], true
	case constants && !isConstantText(e):
		if v, f, _ := Eval(e, nil); f == (api.Fault{}) {
			if v.Kind == api.KInt && v.N < 0 {
				return api.Expr{Op: api.ENeg, Args: []api.Expr{{Op: api.EInt, N: -v.N}}}, true
			}
			return api.Expr{Op: v.Kind, N: v.N, S: v.S}, true
		}
	}
	for i, x := range e.Args {
		if y, ok := oneFold(x); ok {
			e.Args = slices.Clone(e.Args)
			e.Args[i] = y
			return e, true
		}
	}
	return e, false
}

func isConstantText(e api.Expr) bool {
	return e.Op <= api.EText || e.Op == api.ENeg && e.Args[0].Op == api.EInt && e.Args[0].N != 0
}

// TestP74Fold checks that Fold is what arises by replacing one operator after the other from outside, that it is its own Fold, costs no more, and, for sound expressions, has the same value or fault.
func TestP74Fold(t *testing.T) {
	r := rand.New(rand.NewPCG(7, 3))
	faults := map[string]int{}
	for n := range 60000 {
		wild := n%3 == 0
		e := makeExpr(r, 1+r.IntN(3), 1+r.IntN(5), wild)
		got, err := Fold(e)
		want, more := oneFold(e)
		for more {
			want, more = oneFold(want)
		}
		again, _ := Fold(got)
		if err != api.OK || !reflect.DeepEqual(got, want) || !reflect.DeepEqual(again, got) {
			t.Fatalf("Fold(%v) = %v, %d, want %v", e, got, err, want)
		}
		before, _ := Cost(e)
		if after, err := Cost(got); after > before || err != api.OK {
			t.Fatalf("Fold(%v) costs %d, not %d", e, after, before)
		}
		vars := sampleVars(r)
		v, f, err := Eval(e, vars)
		w, g, other := Eval(got, vars)
		if err != api.OK || other != api.OK || !Valid(v) || !ValidFault(f) || !wild && (v != w || f != g) {
			t.Fatalf("Eval(%v) = %v, %v, %d; folded %v, %v, %d", e, v, f, err, w, g, other)
		}
		faults[f.Text]++
	}
	for _, text := range []string{"", "kind", "zero", "big", "long"} {
		if faults[text] < 100 {
			t.Errorf("only %d have the fault %q", faults[text], text)
		}
	}
}
