package compile

import (
	"slices"

	"seedbed/api"
)

// How a body can be left, beside its end and a raise.
const (
	byBreak = iota
	byContinue
	byReturn
	ways
)

// firstWay is the number that says in the place of the kind of a fault that a body was left by the first one of the ways.
const firstWay = api.FCancel + 1

// frame is what is around a statement, and can be left by it.
type frame interface{ isFrame() }

type (
	// block holds the slots of its variables.
	block map[string]int
	// loop holds where it goes on after a break and a continue.
	loop [byReturn]*label
	// closer is a statement that asks for something when its body is left, in whatever way.
	closer struct {
		value int // the slot of what is returned by its body
		exits [ways]label
	}
	// finally is a try, whose last block is executed when its body is left.
	finally struct {
		pair  int // the slots of the fault of the body; the first one says by which way it was left otherwise
		value int
		left  [ways]bool
		last  label
	}
)

func (block) isFrame()    {}
func (*loop) isFrame()    {}
func (*closer) isFrame()  {}
func (*finally) isFrame() {}

// target returns the innermost frame at which a way out leads on; nil: it ends the function.
func (c *compiler) target(way int) frame {
	for _, f := range slices.Backward(c.stack) {
		switch f.(type) {
		case *loop:
			if way != byReturn {
				return f
			}
		case *closer, *finally:
			return f
		}
	}
	return nil
}

// leave leaves all frames that a way out leaves; value is the slot of what is returned by it.
func (c *compiler) leave(way, value int) {
	if c.dead {
		return
	}
	switch f := c.target(way).(type) {
	case *loop:
		c.jump(f[way])
	case *closer:
		c.hand(way, f.value, value)
		c.jump(&f.exits[way])
	case *finally:
		c.hand(way, f.value, value)
		c.constant(f.pair, number(firstWay+way))
		f.left[way] = true
		c.jump(&f.last)
	default:
		c.emit(api.Instr{Op: api.IReturn, A: value})
	}
}

// hand hands what is returned on to a frame.
func (c *compiler) hand(way, to, value int) {
	if way == byReturn {
		c.move(to, value)
	}
}

// valueSlot returns the slot of what is returned by the body of a closer: that of the frame around it, if that needs one, too.
func (c *compiler) valueSlot(body []api.Stmt) int {
	if !c.result || !returns(body) {
		return noSlot
	}
	switch f := c.target(byReturn).(type) {
	case *closer:
		return f.value
	case *finally:
		return f.value
	}
	return c.take()
}
