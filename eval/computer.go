package eval

import "seedbed/api"

// computer computes expressions that have been checked.
type computer struct {
	vars     []api.Value
	binaries map[int]binary
}

func (c *computer) expr(e api.Expr) outcome {
	switch e.Op {
	case api.EInt, api.EBool, api.EText:
		return outcome{v: literal(e)}
	case api.EName:
		return outcome{v: c.vars[e.Slot]}
	}
	left := c.expr(e.Args[0])
	switch {
	case left.fault != noFault:
		return left
	case len(e.Args) == 1:
		return unaries()[e.Op](left.v)
	case settles(e.Op, left.v):
		return c.binary(e.Op)(left.v, api.Value{})
	}
	right := c.expr(e.Args[1])
	if right.fault != noFault {
		return right
	}
	return c.binary(e.Op)(left.v, right.v)
}

// binary returns an operator. Most expressions have none, so that the map is made when one is looked for.
func (c *computer) binary(op int) binary {
	if c.binaries == nil {
		c.binaries = binaries()
	}
	return c.binaries[op]
}

// literal returns the value of an EInt, an EBool or an EText.
func literal(e api.Expr) api.Value {
	switch e.Op {
	case api.EInt:
		return number(e.N)
	case api.EBool:
		return truth(e.N == 1)
	}
	return text(e.S)
}
