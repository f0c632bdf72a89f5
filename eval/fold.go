package eval

import "seedbed/api"

// fold folds the operands of an expression, and then the expression itself: what takes its place is folded then.
func (c *computer) fold(e api.Expr) api.Expr {
	var operands []api.Expr
	for _, x := range e.Args {
		operands = append(operands, c.fold(x))
	}
	e.Args = operands
	switch {
	case isLeaf(e) || isConstant(e):
		return e
	case e.Op == api.EOr || e.Op == api.EAnd:
		return foldLazy(e)
	}
	for _, x := range operands {
		if !isConstant(x) {
			return e
		}
	}
	out := c.expr(e)
	if out.fault != noFault {
		return e
	}
	return constant(out.v)
}

// foldLazy returns what an EOr or EAnd with a constant left operand comes to: that one, or the right one.
func foldLazy(e api.Expr) api.Expr {
	left, right := e.Args[0], e.Args[1]
	switch {
	case left.Op != api.EBool:
		return e
	case settles(e.Op, literal(left)):
		return left
	}
	return right
}

func cost(e api.Expr) int {
	if e.Op == api.EName || isConstant(e) {
		return 0
	}
	n := 1
	for _, x := range e.Args {
		n += cost(x)
	}
	return n
}

func isLeaf(e api.Expr) bool { return len(e.Args) == 0 }

// isConstant reports whether an expression is a constant: a literal, or a negative number.
func isConstant(e api.Expr) bool {
	if e.Op == api.ENeg {
		return e.Args[0].Op == api.EInt && e.Args[0].N != 0
	}
	return isLeaf(e) && e.Op != api.EName
}

// constant returns the constant with a value that an operator has.
func constant(v api.Value) api.Expr {
	switch v.Kind {
	case api.KBool:
		return api.Expr{Op: api.EBool, N: v.N}
	case api.KText:
		return api.Expr{Op: api.EText, S: v.S}
	}
	if v.N < 0 {
		return api.Expr{Op: api.ENeg, Args: []api.Expr{{Op: api.EInt, N: -v.N}}}
	}
	return api.Expr{Op: api.EInt, N: v.N}
}
