package eval

import (
	"cmp"

	"seedbed/api"
)

// noFault is what an outcome with a value has as its fault.
var noFault = api.Fault{}

// outcome is a value, or a fault.
type outcome struct {
	v     api.Value
	fault api.Fault
}

type (
	unary  func(v api.Value) outcome
	binary func(v, w api.Value) outcome
)

func unaries() map[int]unary {
	return map[int]unary{
		api.ENot: func(v api.Value) outcome {
			if v.Kind != api.KBool {
				return fault("kind")
			}
			return outcome{v: truth(v != truth(true))}
		},
		api.ENeg: func(v api.Value) outcome {
			if v.Kind != api.KInt {
				return fault("kind")
			}
			return outcome{v: number(-v.N)}
		},
	}
}

func binaries() map[int]binary {
	return map[int]binary{
		api.EOr:  lazy(api.EOr),
		api.EAnd: lazy(api.EAnd),
		api.EEq:  equality(true),
		api.ENe:  equality(false),
		api.ELt:  order(api.ELt),
		api.ELe:  order(api.ELe),
		api.EGt:  order(api.EGt),
		api.EGe:  order(api.EGe),
		api.EAdd: add,
		api.ESub: arithmetic(func(x, y int) outcome { return small(x - y) }),
		api.EMul: arithmetic(multiply),
		api.EDiv: arithmetic(divided(func(x, y int) int { return x / y })),
		api.ERem: arithmetic(divided(func(x, y int) int { return x % y })),
	}
}

func number(n int) api.Value { return api.Value{Kind: api.KInt, N: n} }

func text(s string) api.Value { return api.Value{Kind: api.KText, S: s} }

func truth(is bool) api.Value {
	if is {
		return api.Value{Kind: api.KBool, N: 1}
	}
	return api.Value{Kind: api.KBool}
}

func fault(text string) outcome {
	return outcome{fault: api.Fault{Kind: api.FThrow, Text: text}}
}

// settles reports whether the right operand of an operator is not computed, if the left one has the value v: it has another kind than it should, or says what the whole is.
func settles(op int, v api.Value) bool {
	switch op {
	case api.EOr:
		return v != truth(false)
	case api.EAnd:
		return v != truth(true)
	}
	return false
}

// lazy is EOr or EAnd.
func lazy(op int) binary {
	return func(v, w api.Value) outcome {
		deciding := w
		if settles(op, v) {
			deciding = v
		}
		if deciding.Kind != api.KBool {
			return fault("kind")
		}
		return outcome{v: deciding}
	}
}

// equality is EEq or ENe.
func equality(wanted bool) binary {
	return func(v, w api.Value) outcome {
		if v.Kind != w.Kind {
			return fault("kind")
		}
		return outcome{v: truth((v == w) == wanted)}
	}
}

// order is ELt, ELe, EGt or EGe.
func order(op int) binary {
	return func(v, w api.Value) outcome {
		switch {
		case both(api.KInt, v, w):
			return outcome{v: truth(inOrder(op, v.N, w.N))}
		case both(api.KText, v, w):
			return outcome{v: truth(inOrder(op, v.S, w.S))}
		}
		return fault("kind")
	}
}

func both(kind int, v, w api.Value) bool { return v.Kind == kind && w.Kind == kind }

func inOrder[T cmp.Ordered](op int, x, y T) bool {
	switch c := cmp.Compare(x, y); op {
	case api.ELt:
		return c < 0
	case api.ELe:
		return c <= 0
	case api.EGt:
		return c > 0
	default:
		return c >= 0
	}
}
