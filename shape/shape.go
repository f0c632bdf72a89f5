// Package shape tells what programs, expressions, values and replies look like, for all layers that take them: whether they are well formed (see shared/doc/02-syntax.md) or valid (see shared/DOC.md), whether a reply fits an ask, how to copy programs, and what they consist of.
package shape

import (
	"seedbed/api"
	"seedbed/lexis"
)

// MaxBuffer is the greatest numeral of a buffer.
const MaxBuffer = 16

// Parts of a try, as its flag has them.
const (
	HasCatch   = 1
	HasFinally = 2
)

// Program returns the number of nodes of a program and its greatest depth. ErrArg: it is not well formed.
func Program(p api.Program) (nodes, depth int, err api.Errno) {
	return census{}.look(func(c *census) { c.program(p) })
}

// ButForSlots returns OK if a program is well formed but for its slots.
func ButForSlots(p api.Program) api.Errno {
	_, _, err := census{slots: true}.look(func(c *census) { c.program(p) })
	return err
}

// Expr returns OK if an expression is that of some source, and neither too large nor too deep.
func Expr(e api.Expr) api.Errno {
	_, _, err := census{}.look(func(c *census) { c.lone(e) })
	return err
}

// ExprButForSlots returns OK if Expr would for an expression but for its slots.
func ExprButForSlots(e api.Expr) api.Errno {
	_, _, err := census{slots: true}.look(func(c *census) { c.lone(e) })
	return err
}

// IsName reports whether a function or a variable can have a name.
func IsName(s string) bool { return lexis.IsName(s) }

// SlotsFit reports whether all names in an expression that has been checked mean one of a number of variables.
func SlotsFit(e api.Expr, vars int) bool {
	if e.Op == api.EName {
		return e.Slot >= 0 && e.Slot < vars
	}
	for _, x := range e.Args {
		if !SlotsFit(x, vars) {
			return false
		}
	}
	return true
}
