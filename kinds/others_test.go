package kinds

import (
	"slices"
	"strings"
	"testing"

	"seedbed/api"
	"seedbed/names"
	"seedbed/syntax"
)

// signs holds the kinds of operands that each operator wants, and that of the whole, behind an =.
var signs = map[int]string{
	api.ENot: "b=b", api.ENeg: "i=i", api.EOr: "bb=b", api.EAnd: "bb=b",
	api.EEq: "--=b ii=b bb=b tt=b cc=b kk=b ll=b", api.ENe: "--=b ii=b bb=b tt=b cc=b kk=b ll=b",
	api.ELt: "ii=b tt=b", api.ELe: "ii=b tt=b", api.EGt: "ii=b tt=b", api.EGe: "ii=b tt=b",
	api.EAdd: "ii=i tt=t", api.ESub: "ii=i", api.EMul: "ii=i", api.EDiv: "ii=i", api.ERem: "ii=i",
}

// operated returns the kind of an operator for the letters of operands.
func operated(op int, operands string) (int, api.Errno) {
	_, rest, found := strings.Cut(" "+signs[op], " "+operands+"=")
	if !found {
		return 0, api.ErrKind
	}
	return kindOf(rest[0]), api.OK
}

// variable returns the variable with a slot, which has the same position among the letters.
func variable(slot int) api.Expr { return api.Expr{Op: api.EName, S: "x", Slot: slot} }

// allKinds gives the slot n the kind n.
func allKinds() []int { return []int{0, 1, 2, 3, 4, 5, 6} }

func wantExpr(t *testing.T, e api.Expr, vars []int, want int, wantErr api.Errno) {
	t.Helper()
	if got, err := Expr(e, vars); got != want || err != wantErr {
		t.Errorf("Expr(%v, %v) = %d, %d, want %d, %d", e, vars, got, err, want, wantErr)
	}
}

// TestP52Leaves checks the kinds of constants and variables.
func TestP52Leaves(t *testing.T) {
	for want, e := range map[int]api.Expr{api.KInt: {Op: api.EInt, N: api.MaxInt}, api.KBool: {Op: api.EBool, N: 1}, api.KText: {Op: api.EText, S: "a"}} {
		for _, vars := range [][]int{nil, {}, {0}, allKinds()} {
			wantExpr(t, e, vars, want, api.OK)
			e.Slot = -5
			wantExpr(t, e, vars, want, api.OK)
		}
	}
	for slot, kind := range allKinds() {
		wantExpr(t, variable(slot), allKinds(), kind, api.OK)
		wantExpr(t, variable(0), []int{kind}, kind, api.OK)
	}
}

// TestP52Operators checks each operator with operands of each kind, and as an operand of others.
func TestP52Operators(t *testing.T) {
	for op := range signs {
		for left := range letters {
			operands, e := letters[left:left+1], api.Expr{Op: op, Slot: 77, Args: []api.Expr{variable(left)}}
			if op == api.ENot || op == api.ENeg {
				wantOperated(t, e, op, operands)
				continue
			}
			for right := range letters {
				e.Args = []api.Expr{variable(left), variable(right)}
				wantOperated(t, e, op, operands+letters[right:right+1])
			}
		}
	}
}

// wantOperated checks an operator alone, and within others.
func wantOperated(t *testing.T, e api.Expr, op int, operands string) {
	t.Helper()
	kind, err := operated(op, operands)
	wantExpr(t, e, allKinds(), kind, err)
	equal := api.Expr{Op: api.EEq, Args: []api.Expr{e, e}}
	if err != api.OK {
		for _, outer := range []api.Expr{equal, {Op: api.ENe, Args: []api.Expr{variable(0), e}}, {Op: api.ENot, Args: []api.Expr{equal}}, {Op: api.EOr, Args: []api.Expr{{Op: api.EBool, N: 1}, equal}}} {
			wantExpr(t, outer, allKinds(), 0, api.ErrKind)
		}
		return
	}
	wantExpr(t, equal, allKinds(), api.KBool, api.OK)
	for _, outer := range []int{api.ENot, api.ENeg} {
		kind, err := operated(outer, letters[kind:kind+1])
		wantExpr(t, api.Expr{Op: outer, Args: []api.Expr{e}}, allKinds(), kind, err)
	}
}

// TestP51Operators checks operators in programs.
func TestP51Operators(t *testing.T) {
	for e, sound := range map[string]bool{
		"1 + 2": true, "1 + \"a\"": false, "\"a\" + 1": false, "\"a\" + \"b\"": true, "true + true": false, "c + c": false, "\"a\" - \"b\"": false, "\"a\" * 2": false, "1 == true": false, "1 == 1 == true": true, "1 == 1 == 1": false, "c == c && l != l": true, "c == l": false, "k == k": true,
		"1 < 2": true, "t < t": true, "b < b": false, "c < c": false, "1 < t": false, "1 < 2 < 3": false, "!1": false, "!!b": true, "-b": false, "--i": true, "-t": false, "b && 1": false, "1 || b": false, "true || 1 == 1": true, "i % 2 == 0 && t > \"\"": true, "(i + 1) * -i": true, "i / b": false,
	} {
		wantKind(t, inContext("emit "+e+";"), sound)
		wantKind(t, inContext("let x = "+e+"; if b { x = "+e+"; }"), sound)
	}
}

// nestedNot returns a nest of a depth.
func nestedNot(depth int) api.Expr {
	e := api.Expr{Op: api.EBool}
	for range depth - 1 {
		e = api.Expr{Op: api.ENot, Args: []api.Expr{e}}
	}
	return e
}

// sum returns an expression of 2 to the power of levels + 1, minus 1, nodes.
func sum(levels int) api.Expr {
	if levels == 0 {
		return api.Expr{Op: api.EInt}
	}
	return api.Expr{Op: api.EAdd, Args: []api.Expr{sum(levels - 1), sum(levels - 1)}}
}

// TestP52ExprMisfits checks expressions that are not well formed, with all kinds of lists.
func TestP52ExprMisfits(t *testing.T) {
	one, truth := api.Expr{Op: api.EInt, N: 1}, api.Expr{Op: api.EBool}
	ring := []api.Expr{{Op: api.ENot}}
	ring[0].Args = ring
	for _, e := range []api.Expr{
		{}, {Op: -1}, {Op: api.ERem + 1}, {Op: api.EInt, N: -1}, {Op: api.EInt, N: api.MaxInt + 1}, {Op: api.EInt, S: "1"}, {Op: api.EInt, Args: []api.Expr{one}}, {Op: api.EBool, N: 2}, {Op: api.EBool, N: -1}, {Op: api.EText, S: "\n"}, {Op: api.EText, N: 1}, {Op: api.EText, S: strings.Repeat("a", api.MaxText+1)}, {Op: api.EText, Args: []api.Expr{one}},
		{Op: api.EName}, {Op: api.EName, S: "let"}, {Op: api.EName, S: "X"}, {Op: api.EName, S: strings.Repeat("x", api.MaxName+1)}, {Op: api.EName, S: "x", N: 1}, {Op: api.EName, S: "x", Args: []api.Expr{one}},
		{Op: api.ENot}, {Op: api.ENot, Args: []api.Expr{truth, truth}}, {Op: api.ENeg}, {Op: api.ENot, N: 1, Args: []api.Expr{truth}}, {Op: api.ENot, S: "!", Args: []api.Expr{truth}}, {Op: api.EAdd}, {Op: api.EAdd, Args: []api.Expr{one}}, {Op: api.EAdd, Args: []api.Expr{one, one, one}}, {Op: api.EEq, Args: []api.Expr{one, {}}}, {Op: api.ENot, Args: ring}, nestedNot(api.MaxDepth + 1), nestedNot(1000), sum(9), {Op: api.EAdd, Args: make([]api.Expr, 1<<20)},
	} {
		for _, vars := range [][]int{nil, {}, {1}, allKinds(), {-1}} {
			if got, err := Expr(e, vars); got != 0 || err != api.ErrArg {
				t.Errorf("Expr of a misfit = %d, %d", got, err)
			}
		}
	}
	wantExpr(t, nestedNot(api.MaxDepth), nil, api.KBool, api.OK)
	wantExpr(t, sum(8), nil, api.KInt, api.OK)
}

// TestP52ExprSlots checks slots that are no positions, and lists with numbers that are no kinds.
func TestP52ExprSlots(t *testing.T) {
	for _, slot := range []int{-1, 2, 3, -1 << 63, 1<<63 - 1} {
		for _, e := range []api.Expr{variable(slot), {Op: api.ENot, Args: []api.Expr{variable(slot)}}, {Op: api.EEq, Args: []api.Expr{variable(0), variable(slot)}}, {Op: api.EAdd, Args: []api.Expr{{Op: api.ENeg, Args: []api.Expr{variable(slot)}}, {Op: api.EBool}}}} {
			for _, vars := range [][]int{{1, 1}, {2, 2}, {0, 6}} {
				wantExpr(t, e, vars, 0, api.ErrArg)
			}
		}
	}
	wantExpr(t, variable(0), nil, 0, api.ErrArg)
	wantExpr(t, variable(0), []int{}, 0, api.ErrArg)
	for _, no := range []int{-1, -2, 7, 8, -1 << 63, 1<<63 - 1} {
		for _, e := range []api.Expr{variable(0), variable(1), {Op: api.EInt, N: 1}, {Op: api.ENot, Args: []api.Expr{{Op: api.EInt}}}} {
			wantExpr(t, e, []int{1, no}, 0, api.ErrArg)
			wantExpr(t, e, []int{no, 1}, 0, api.ErrArg)
			wantExpr(t, e, []int{1, 1, 1, no}, 0, api.ErrArg)
		}
	}
}

// TestP52ExprOfPrograms checks that Expr says of the expressions of a sound program what Vars and statements say.
func TestP52ExprOfPrograms(t *testing.T) {
	p, err := Check(parsed(t, everything))
	if err != api.OK {
		t.Fatalf("Check: %d", err)
	}
	for fn, f := range p.Funcs {
		vars, _ := Vars(p, fn)
		for _, s := range f.Body {
			if s.Op == api.SLet {
				wantExpr(t, s.Args[0], vars, vars[s.Slot], api.OK)
			}
		}
	}
}

// called is a program with functions of all kinds of parameters.
const called = `fn main() { } fn f(a int, b bool, c text, d chan) { } fn g(a task, b lock) int { return 1; } fn h(a int) flow { } fn e() flow { }`

// TestP52Fits checks values for the parameters of each kind.
func TestP52Fits(t *testing.T) {
	p := parsed(t, called)
	value := func(kind, n int, s string) api.Value { return api.Value{Kind: kind, N: n, S: s} }
	good := [][]api.Value{nil, {value(1, 5, ""), value(2, 1, ""), value(3, 0, "a"), value(4, 1, "")}, {value(5, 9, ""), value(6, 2, "")}, {value(1, 0, "")}, {}}
	others := map[api.Value]bool{ // is it valid?
		value(1, api.MaxInt, ""): true, value(1, -api.MaxInt, ""): true, value(1, api.MaxInt+1, ""): false, value(1, -api.MaxInt-1, ""): false, value(1, 1, "1"): false, value(1, 1<<63-1, ""): false,
		value(2, 0, ""): true, value(2, 2, ""): false, value(2, -1, ""): false, value(2, 1, "true"): false,
		value(3, 0, ""): true, value(3, 0, ` ~"\`): true, value(3, 0, strings.Repeat("x", api.MaxText)): true, value(3, 0, strings.Repeat("x", api.MaxText+1)): false, value(3, 0, "\x1f"): false, value(3, 0, "\x7f"): false, value(3, 0, "\xff"): false, value(3, 0, "a\n"): false, value(3, 1, "a"): false,
		value(4, 1, ""): true, value(4, api.MaxInt, ""): true, value(4, 0, ""): false, value(4, -1, ""): false, value(4, api.MaxInt+1, ""): false, value(4, 1, "c"): false,
		value(5, 1, ""): true, value(5, api.MaxInt, ""): true, value(5, 0, ""): false, value(5, api.MaxInt+1, ""): false, value(5, 1, "k"): false,
		value(6, 1, ""): true, value(6, api.MaxInt, ""): true, value(6, 0, ""): false, value(6, api.MaxInt+1, ""): false, value(6, 1, "l"): false,
		value(0, 0, ""): true, value(0, 1, ""): false, value(0, 0, "a"): false, value(-1, 0, ""): false, value(-1, 1, ""): false, value(7, 1, ""): false, value(1<<63-1, 1, ""): false,
	}
	q, _ := names.Resolve(p)
	for fn, args := range good {
		for _, r := range []api.Program{p, q, slotted(t, p)} {
			if err := Fits(r, fn, args); err != api.OK {
				t.Errorf("Fits(%d, %v) = %d", fn, args, err)
			}
		}
		for at := range args {
			for v, valid := range others {
				changed, want := slices.Clone(args), api.ErrKind
				changed[at] = v
				if valid && v.Kind == args[at].Kind {
					want = api.OK
				}
				if err := Fits(p, fn, changed); err != want {
					t.Errorf("Fits(%d, %v) = %d, want %d", fn, changed, err, want)
				}
			}
		}
	}
}

// TestP52FitsCount checks numbers of arguments, which come before their kinds.
func TestP52FitsCount(t *testing.T) {
	p := parsed(t, called)
	for fn, count := range []int{0, 4, 2, 1, 0} {
		for n := range 8 {
			want := api.ErrCount
			if n == count {
				want = api.ErrKind // KUnit is the kind of no parameter
			}
			if n == count && n == 0 {
				want = api.OK
			}
			if err := Fits(p, fn, make([]api.Value, n)); err != want {
				t.Errorf("Fits(%d) of %d units = %d, want %d", fn, n, err, want)
			}
		}
		if err := Fits(p, fn, make([]api.Value, 1<<20)); err != api.ErrCount {
			t.Errorf("Fits(%d) of very many = %d", fn, err)
		}
	}
}

// TestP53Renamed checks that a sound program remains sound, with the same kinds, if a variable is renamed.
func TestP53Renamed(t *testing.T) {
	p := parsed(t, everything)
	for fn := range p.Funcs {
		vars, err := names.Vars(p, fn)
		if err != api.OK {
			t.Fatalf("Vars: %d", err)
		}
		kinds, _ := Vars(p, fn)
		for _, name := range vars {
			q, err := names.Rename(p, fn, name, "new0")
			if err != api.OK {
				t.Fatalf("Rename: %d", err)
			}
			if got, err := Vars(q, fn); err != api.OK || !slices.Equal(got, kinds) {
				t.Errorf("Vars with another %s = %v, %d", name, got, err)
			}
		}
	}
}

// TestP53Exchanged checks that a sound program remains sound, and one that is not remains so, if functions are exchanged.
func TestP53Exchanged(t *testing.T) {
	for source, want := range map[string]api.Errno{everything: api.OK, inContext(""): api.OK, inContext("sleep t;"): api.ErrKind, inContext("") + "fn z() int { }": api.ErrEnd} {
		p := parsed(t, source)
		for i := 1; i < len(p.Funcs); i++ {
			for j := 1; j < i; j++ {
				q, _ := syntax.Clone(p)
				q.Funcs[i], q.Funcs[j] = q.Funcs[j], q.Funcs[i]
				if _, err := Check(q); err != want {
					t.Errorf("Check with %d and %d exchanged: %d, want %d", i, j, err, want)
				}
				if want != api.OK {
					continue
				}
				before, _ := Vars(p, i)
				if got, err := Vars(q, j); err != api.OK || !slices.Equal(got, before) {
					t.Errorf("Vars with %d and %d exchanged = %v, %d", i, j, got, err)
				}
			}
		}
	}
}
