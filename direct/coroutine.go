package direct

import (
	"seedbed/api"
	"seedbed/shape"
)

// coroutine is a coroutine of a sound program with all slots: it writes down its turns.
type coroutine struct {
	funcs  []api.Func
	outlet api.Value // of a flow
	reply  func(ask api.Ask, at int) (api.Answer, bool)
	turns  []api.Turn
	steps  int // since the last reply
	calls  func(more int) bool
}

// left is the panic by which a coroutine is left before it is done: without an error, if it waits for a reply that is not there.
type left struct{ err api.Errno }

// run returns the turns of a coroutine until it is done, or waits for a reply that is not there.
func run(p api.Program, fn int, args []api.Value, reply func(ask api.Ask, at int) (api.Answer, bool)) (turns []api.Turn, err api.Errno) {
	c := &coroutine{funcs: p.Funcs, reply: reply, calls: counter(api.MaxFrames)}
	defer func() {
		if l, ok := recover().(left); ok {
			turns, err = c.turns, l.err
		}
	}()
	c.whole(fn, args)
	return c.turns, api.OK
}

// counter counts calls that are not finished: it returns false, and adds nothing, if there would be more than most.
func counter(most int) func(more int) bool {
	n := 0
	return func(more int) bool {
		if n+more > most {
			return false
		}
		n += more
		return true
	}
}

// whole executes the coroutine of a function.
func (c *coroutine) whole(fn int, args []api.Value) {
	flow := c.funcs[fn].Flow
	if flow {
		last := len(args) - 1
		c.outlet, args = args[last], args[:last]
	}
	c.calls(+1)
	end := c.call(fn, args)
	if flow {
		end = after(c.ask(api.Ask{Kind: api.AClose, V: c.outlet}), end)
	}
	turn := api.Turn{Done: true}
	switch e := end.(type) {
	case returned:
		turn.V = e.v
	case raised:
		turn.Fault = e.fault
	}
	c.turns = append(c.turns, turn)
}

// call executes a function. What it ends with is a return or a raise.
func (c *coroutine) call(fn int, args []api.Value) ending {
	f := frame{c, make([]api.Value, c.funcs[fn].Vars)}
	copy(f.vars, args)
	end := f.list(c.funcs[fn].Body)
	if _, ok := end.(plain); ok {
		return returned{}
	}
	return end
}

// step counts a step. ErrFuel: there are too many since the last reply.
func (c *coroutine) step() {
	if c.steps == api.MaxFuel {
		panic(left{api.ErrFuel})
	}
	c.steps++
}

// ask asks for something, and takes the reply. ErrAnswer: that does not fit.
func (c *coroutine) ask(a api.Ask) api.Answer {
	at := len(c.turns)
	c.turns = append(c.turns, api.Turn{Ask: a})
	r, ok := c.reply(a, at)
	if !ok {
		panic(left{api.OK})
	}
	if !shape.Fits(a, r) {
		panic(left{api.ErrAnswer})
	}
	c.steps = 0
	return r
}
