package machine

import (
	"seedbed/api"
	"seedbed/shape"
)

// noFault is what a reply with a value has as its fault.
var noFault = api.Fault{}

// runner executes a coroutine of a valid code.
type runner struct {
	code   api.Code
	frames []api.Frame
	does   map[int]func(*api.Frame, api.Instr) // what instructions do, by their Ops
	turn   api.Turn                            // the last one
	rests  bool                                // it has made a turn since the last reply
	steps  int                                 // since the last reply
}

func newRunner(c api.Code, frames []api.Frame, turn api.Turn) *runner {
	r := &runner{code: c, frames: frames, turn: turn}
	r.does = map[int]func(*api.Frame, api.Instr){
		api.IConst: r.constant, api.IMove: r.move, api.IUnary: r.unary, api.IBinary: r.binary,
		api.IJump: r.jump, api.IFalse: r.ifFalse, api.ISwitch: r.switchTo, api.IFault: r.ifFault,
		api.ICall: r.call, api.IReturn: r.giveBack, api.IThrow: r.throw, api.IRaise: r.raiseAgain,
		api.IAsk: r.ask, api.IArm: r.arm,
	}
	return r
}

// run executes instructions until a turn is made.
func (r *runner) run() api.Errno {
	for !r.rests {
		if r.steps == api.MaxFuel {
			return api.ErrFuel
		}
		r.steps++
		f := r.top()
		in := instrOf(r.code, *f)
		r.does[in.Op](f, in)
	}
	return api.OK
}

// reply continues with a reply to the ask of the last turn.
func (r *runner) reply(a api.Answer) api.Errno {
	if !shape.Fits(r.turn.Ask, a) {
		return api.ErrAnswer
	}
	r.rests, r.steps = false, 0
	f := r.top()
	in := instrOf(r.code, *f)
	r.settle(f, in.A, a.V, a.Fault)
	if in.B == api.ASelect && a.Fault == noFault {
		f.Slots[in.L[0]] = api.Value{Kind: api.KInt, N: a.Index}
	}
	return r.run()
}

// top is the frame of the call that is executed.
func (r *runner) top() *api.Frame { return &r.frames[len(r.frames)-1] }

func (r *runner) pop() { r.frames = r.frames[:len(r.frames)-1] }

// rest makes a turn.
func (r *runner) rest(turn api.Turn) { r.turn, r.rests = turn, true }

// settle puts the value of an instruction into a slot and continues, unless there is a fault.
func (r *runner) settle(f *api.Frame, slot int, v api.Value, fault api.Fault) {
	if fault != noFault {
		r.raise(fault)
		return
	}
	if slot != noSlot {
		f.Slots[slot] = v
	}
	f.Pc++
}

// raise continues at the guard to which a raise at the place of the last frame leads.
func (r *runner) raise(fault api.Fault) {
search:
	for {
		f := r.top()
		for _, g := range r.code.Funcs[f.Fn].Guards {
			if g.From <= f.Pc && f.Pc < g.To {
				f.Slots[g.Slot] = api.Value{Kind: api.KInt, N: fault.Kind}
				f.Slots[g.Slot+1] = api.Value{Kind: api.KText, S: fault.Text}
				f.Pc = g.At
				break search
			}
		}
		r.pop()
		if len(r.frames) == 0 {
			r.rest(api.Turn{Done: true, Fault: fault})
			break search
		}
	}
}

// fail is a raise of an error.
func (r *runner) fail(text string) { r.raise(api.Fault{Kind: api.FThrow, Text: text}) }
