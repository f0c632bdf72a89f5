package print

import (
	"strconv"
	"strings"

	"seedbed/api"
	"seedbed/shape"
)

// symbol is an operator with a number of operands.
type symbol struct {
	op, operands int
}

// operator is how an operator is written: operands of a lower level stand in parentheses.
type operator struct {
	sign  string
	level int
}

// tightest is the level of the operators of one operand.
const tightest = 7

func operators() map[symbol]operator {
	return map[symbol]operator{
		{api.ENot, 1}: {"!", tightest}, {api.ENeg, 1}: {"-", tightest},
		{api.EOr, 2}:  {"||", 1},
		{api.EAnd, 2}: {"&&", 2},
		{api.EEq, 2}:  {"==", 3}, {api.ENe, 2}: {"!=", 3},
		{api.ELt, 2}: {"<", 4}, {api.ELe, 2}: {"<=", 4}, {api.EGt, 2}: {">", 4}, {api.EGe, 2}: {">=", 4},
		{api.EAdd, 2}: {"+", 5}, {api.ESub, 2}: {"-", 5},
		{api.EMul, 2}: {"*", 6}, {api.EDiv, 2}: {"/", 6}, {api.ERem, 2}: {"%", 6},
	}
}

// speller writes what stands on one line.
type speller struct {
	operators map[symbol]operator
}

func (w speller) operator(e api.Expr) operator {
	return w.operators[symbol{e.Op, len(e.Args)}]
}

func (w speller) expr(e api.Expr) string {
	o := w.operator(e)
	switch len(e.Args) {
	case 0:
		return leaf(e)
	case 1:
		return o.sign + w.operand(e.Args[0], o.level)
	}
	// Operators of one level are grouped from the left, so that the right operand needs a higher level.
	return w.operand(e.Args[0], o.level) + " " + o.sign + " " + w.operand(e.Args[1], o.level+1)
}

// operand writes an operand whose level should be at least least.
func (w speller) operand(e api.Expr, least int) string {
	text := w.expr(e)
	if len(e.Args) == 2 && w.operator(e).level < least {
		return "(" + text + ")"
	}
	return text
}

// exprs writes expressions with commas between them.
func (w speller) exprs(list []api.Expr) string {
	var texts []string
	for _, e := range list {
		texts = append(texts, w.expr(e))
	}
	return strings.Join(texts, ", ")
}

// leaf writes an expression without operands.
func leaf(e api.Expr) string {
	switch e.Op {
	case api.EInt:
		return strconv.Itoa(e.N)
	case api.EBool:
		return strconv.FormatBool(e.N == 1)
	case api.EText:
		return shape.Quote(e.S)
	}
	return e.S
}
