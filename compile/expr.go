package compile

import "seedbed/api"

func number(n int) api.Value { return api.Value{Kind: api.KInt, N: n} }

func text(s string) api.Value { return api.Value{Kind: api.KText, S: s} }

// operand returns the slot of a variable, or puts the value of another expression into a slot of its own.
func (c *compiler) operand(e api.Expr) int {
	if e.Op == api.EName {
		return c.variable(e.S)
	}
	return c.copied(e)
}

// copied puts the value of an expression into a slot of its own.
func (c *compiler) copied(e api.Expr) int {
	slot := c.take()
	c.into(slot, e)
	return slot
}

func (c *compiler) operands(list []api.Expr) []int {
	var slots []int
	for _, e := range list {
		slots = append(slots, c.operand(e))
	}
	return slots
}

// into puts the value of an expression into a slot. Only && and || write into it before all operands are computed.
func (c *compiler) into(slot int, e api.Expr) {
	next := c.slots.next
	switch e.Op {
	case api.EInt:
		c.constant(slot, number(e.N))
	case api.EBool:
		c.constant(slot, api.Value{Kind: api.KBool, N: e.N})
	case api.EText:
		c.constant(slot, text(e.S))
	case api.EName:
		c.move(slot, c.variable(e.S))
	case api.ENot, api.ENeg:
		c.emit(api.Instr{Op: api.IUnary, A: slot, B: e.Op, C: c.operand(e.Args[0])})
	case api.EOr, api.EAnd:
		c.lazy(slot, e)
	default:
		left := c.operand(e.Args[0])
		right := c.operand(e.Args[1])
		c.emit(api.Instr{Op: api.IBinary, A: slot, B: e.Op, C: left, L: []int{right}})
	}
	c.slots.next = next
}

func (c *compiler) lazy(slot int, e api.Expr) {
	var right, done label
	c.into(slot, e.Args[0])
	if e.Op == api.EAnd {
		c.branch(api.IFalse, slot, &done)
	} else {
		c.branch(api.IFalse, slot, &right)
		c.jump(&done)
		c.place(&right)
	}
	c.into(slot, e.Args[1])
	c.place(&done)
}

// unless leads to a label if a condition is false.
func (c *compiler) unless(e api.Expr, to *label) {
	switch {
	case e.Op == api.EBool && e.N == 1:
	case e.Op == api.EBool:
		c.jump(to)
	case e.Op == api.EAnd:
		c.unless(e.Args[0], to)
		c.unless(e.Args[1], to)
	default:
		next := c.slots.next
		c.branch(api.IFalse, c.operand(e), to)
		c.slots.next = next
	}
}
