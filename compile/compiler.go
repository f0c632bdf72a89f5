package compile

import (
	"seedbed/api"
	"seedbed/instr"
	"seedbed/shape"
)

// machineOf makes the machine of a low program, which is a valid code if it is not too large.
func machineOf(low api.Program) api.Code {
	places := map[string]int{}
	for i, f := range low.Funcs {
		places[f.Name] = i
	}
	var c api.Code
	for _, f := range low.Funcs {
		c.Funcs = append(c.Funcs, function(f, places))
	}
	return c
}

// compiler writes the code of a function.
type compiler struct {
	*writer
	slots  *slots
	take   func() int     // hands out a slot
	places map[string]int // of the functions, by their names
	result bool           // what is returned is a value
	stack  []frame        // what is around the statement that is written
}

func function(f api.Func, places map[string]int) api.FnCode {
	all := &slots{}
	c := &compiler{writer: &writer{forms: instr.Table()}, slots: all, take: all.take, places: places, result: f.Result != api.KUnit}
	c.within(block{}, func() {
		for _, q := range f.Params {
			c.bind(q.Name, c.take())
		}
		c.list(f.Body)
	})
	c.emit(api.Instr{Op: api.IReturn, A: noSlot})
	return api.FnCode{Name: f.Name, Params: len(f.Params), Slots: all.most, Code: c.code, Guards: c.guards}
}

// within writes something in a frame, and takes all slots back that were handed out for it.
func (c *compiler) within(f frame, write func()) {
	next := c.slots.next
	c.stack = append(c.stack, f)
	write()
	c.stack = c.stack[:len(c.stack)-1]
	c.slots.next = next
}

// bind makes a slot that of a variable of the innermost block.
func (c *compiler) bind(name string, slot int) {
	// What makes variables stands directly in a block.
	c.stack[len(c.stack)-1].(block)[name] = slot
}

// variable returns the slot of a variable that is seen.
func (c *compiler) variable(name string) int {
	for i := len(c.stack) - 1; i >= 0; i-- {
		if b, ok := c.stack[i].(block); ok {
			if slot, ok := b[name]; ok {
				return slot
			}
		}
	}
	return noSlot
}

// pair takes two slots for a fault, and returns the first one.
func (c *compiler) pair() int {
	first := c.take()
	c.take()
	return first
}

func (c *compiler) list(stmts []api.Stmt) {
	for i := range stmts {
		c.stmt(&stmts[i])
	}
}

func (c *compiler) block(stmts []api.Stmt) {
	c.within(block{}, func() { c.list(stmts) })
}

// returns reports whether there is a return in statements.
func returns(stmts []api.Stmt) bool {
	for s := range shape.Stmts(stmts) {
		if s.Op == api.SReturn {
			return true
		}
	}
	return false
}
