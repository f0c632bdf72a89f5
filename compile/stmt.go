package compile

import (
	"slices"

	"seedbed/api"
	"seedbed/shape"
)

// asks holds what the statements ask for that ask once, by their operators.
var asks = [api.SProduce + 1]int{
	api.SSpawn:   api.ASpawn,
	api.SAwait:   api.AAwait,
	api.SReceive: api.AReceive,
	api.SChan:    api.AChan,
	api.SLock:    api.ALock,
	api.SNow:     api.ANow,
	api.SSend:    api.ASend,
	api.SClose:   api.AClose,
	api.SSleep:   api.ASleep,
	api.SYield:   api.AYield,
	api.SEmit:    api.AEmit,
	api.SCancel:  api.ACancel,
}

// stmt writes a statement. The slots that are handed out for it are taken back, but for that of a variable that it makes.
func (c *compiler) stmt(s *api.Stmt) {
	made := c.made(s)
	next := c.slots.next
	switch s.Op {
	case api.SLet:
		c.into(made, s.Args[0])
	case api.SSet:
		c.set(c.variable(s.Name), s.Args[0])
	case api.SCall:
		c.emit(api.Instr{Op: api.ICall, A: made, B: c.places[s.Fn], L: c.operands(s.Args)})
	case api.SThrow:
		c.emit(api.Instr{Op: api.IThrow, A: c.operand(s.Args[0])})
	case api.SReturn:
		c.leave(byReturn, append(c.operands(s.Args), noSlot)[0])
	case api.SBreak:
		c.leave(byBreak, noSlot)
	case api.SContinue:
		c.leave(byContinue, noSlot)
	default:
		if asks[s.Op] == 0 {
			c.blocks(s)
			break
		}
		c.askOnce(s, made)
	}
	c.slots.next = next
}

// made returns the slot of the variable that a statement makes in the block in which it stands.
func (c *compiler) made(s *api.Stmt) int {
	if s.Name == "" || slices.Contains([]int{api.SSet, api.STry, api.SUse}, s.Op) {
		return noSlot
	}
	slot := c.take()
	c.bind(s.Name, slot)
	return slot
}

// set gives a value to a variable, but not before it is computed without a fault.
func (c *compiler) set(slot int, e api.Expr) {
	if e.Op == api.EOr || e.Op == api.EAnd {
		c.move(slot, c.copied(e))
		return
	}
	c.into(slot, e)
}

// askOnce writes a statement that asks once.
func (c *compiler) askOnce(s *api.Stmt, made int) {
	in := api.Instr{Op: api.IAsk, A: made, B: asks[s.Op], L: c.operands(s.Args)}
	switch s.Op {
	case api.SSpawn:
		in.C = c.places[s.Fn]
	case api.SChan:
		in.C = s.Flag
	}
	from := c.here()
	c.emit(in)
	if s.Op == api.SReceive && s.Flag == 1 {
		c.elseBreak(from)
	}
}

// elseBreak makes a break of a raise of closed at the ask before it. No other kind of fault has this text.
func (c *compiler) elseBreak(ask int) {
	var done, other label
	to := c.here()
	c.jump(&done)
	pair := c.pair()
	if c.guard(ask, to, pair) {
		closed := c.copied(api.Expr{Op: api.EText, S: "closed"})
		c.emit(api.Instr{Op: api.IBinary, A: closed, B: api.EEq, C: pair + 1, L: []int{closed}})
		c.branch(api.IFalse, closed, &other)
		c.leave(byBreak, noSlot)
		c.place(&other)
		c.raise(pair)
	}
	c.place(&done)
}

// blocks writes a statement that has blocks.
func (c *compiler) blocks(s *api.Stmt) {
	switch s.Op {
	case api.SIf:
		c.choice(s)
	case api.SWhile:
		c.while(s)
	case api.SScope:
		c.scope(s)
	case api.SShield:
		c.between(s, api.AShield, api.AUnveil)
	case api.SUse:
		c.between(s, api.AAcquire, api.ARelease, c.copied(s.Args[0]))
	case api.SHold:
		c.between(s, api.AHold, api.AFree, c.copied(s.Args[0]))
	case api.SSelect:
		c.selection(s)
	case api.STry:
		if s.Flag == shape.HasCatch {
			c.catch(s)
			return
		}
		c.finally(s)
	}
}
