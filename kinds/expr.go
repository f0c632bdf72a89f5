package kinds

import (
	"slices"

	"seedbed/api"
	"seedbed/shape"
)

// wrong is the kind of what has none: of an expression that gets a kind that it does not want, and of a value that is not valid.
const wrong = -1

// kindsOf returns the kinds of the elements of a list.
func kindsOf[T any](list []T, kind func(T) int) []int {
	var kinds []int
	for _, x := range list {
		kinds = append(kinds, kind(x))
	}
	return kinds
}

func paramKind(q api.Param) int { return q.Kind }

func valueKind(v api.Value) int {
	if !shape.Valid(v) {
		return wrong
	}
	return v.Kind
}

func exprsKinds(list []api.Expr, vars []int) []int {
	return kindsOf(list, func(e api.Expr) int { return exprKind(e, vars) })
}

func exprKind(e api.Expr, vars []int) int {
	switch e.Op {
	case api.EInt:
		return api.KInt
	case api.EBool:
		return api.KBool
	case api.EText:
		return api.KText
	case api.EName:
		return vars[e.Slot]
	}
	return operatorKind(e.Op, exprsKinds(e.Args, vars))
}

// operatorKind returns the kind of what an operator makes of operands of the kinds got.
func operatorKind(op int, got []int) int {
	is := func(want ...int) bool { return slices.Equal(got, want) }
	switch {
	case slices.Contains(got, wrong):
		return wrong
	case op == api.ENot && is(api.KBool),
		(op == api.EOr || op == api.EAnd) && is(api.KBool, api.KBool),
		(op == api.EEq || op == api.ENe) && got[0] == got[1],
		isOrder(op) && (is(api.KInt, api.KInt) || is(api.KText, api.KText)):
		return api.KBool
	case op == api.ENeg && is(api.KInt),
		isArithmetic(op) && is(api.KInt, api.KInt):
		return api.KInt
	case op == api.EAdd && is(api.KText, api.KText):
		return api.KText
	}
	return wrong
}

func isOrder(op int) bool { return op >= api.ELt && op <= api.EGe }

func isArithmetic(op int) bool { return op >= api.EAdd && op <= api.ERem }

func isNoKind(kind int) bool { return kind < api.KUnit || kind > api.KLock }
