package machine

import (
	"seedbed/api"
	"seedbed/eval"
)

func (r *runner) constant(f *api.Frame, in api.Instr) { r.settle(f, in.A, in.V, noFault) }

func (r *runner) move(f *api.Frame, in api.Instr) { r.settle(f, in.A, f.Slots[in.B], noFault) }

func (r *runner) unary(f *api.Frame, in api.Instr) {
	// The operator and the values are valid.
	v, fault, _ := eval.Unary(in.B, f.Slots[in.C])
	r.settle(f, in.A, v, fault)
}

func (r *runner) binary(f *api.Frame, in api.Instr) {
	v, fault, _ := eval.Binary(in.B, f.Slots[in.C], f.Slots[in.L[0]])
	r.settle(f, in.A, v, fault)
}

func (r *runner) jump(f *api.Frame, in api.Instr) { f.Pc = in.A }

func (r *runner) ifFalse(f *api.Frame, in api.Instr) {
	switch v := f.Slots[in.A]; {
	case v.Kind != api.KBool:
		r.fail("kind")
	case v.N == 0:
		f.Pc = in.B
	default:
		f.Pc++
	}
}

func (r *runner) ifFault(f *api.Frame, in api.Instr) {
	if f.Slots[in.A] != (api.Value{Kind: api.KInt, N: api.FThrow}) {
		f.Pc = in.B
		return
	}
	f.Pc++
}

func (r *runner) switchTo(f *api.Frame, in api.Instr) {
	n, ok := numberOf(f.Slots[in.A])
	if !ok || n < 0 || n >= len(in.L) {
		r.fail("kind")
		return
	}
	f.Pc = in.L[n]
}

func (r *runner) call(f *api.Frame, in api.Instr) {
	if len(r.frames) == api.MaxFrames {
		r.fail("deep")
		return
	}
	r.frames = append(r.frames, newFrame(r.code, in.B, in.A, valuesOf(*f, in.L)))
}

func (r *runner) giveBack(f *api.Frame, in api.Instr) {
	v := api.Value{}
	if in.A != noSlot {
		v = f.Slots[in.A]
	}
	to := f.To
	r.pop()
	if len(r.frames) == 0 {
		r.rest(api.Turn{Done: true, V: v})
		return
	}
	r.settle(r.top(), to, v, noFault)
}

func (r *runner) throw(f *api.Frame, in api.Instr) {
	v := f.Slots[in.A]
	if v.Kind != api.KText {
		r.fail("kind")
		return
	}
	r.fail(v.S)
}

func (r *runner) raiseAgain(f *api.Frame, in api.Instr) {
	fault, ok := faultOf(f.Slots[in.A], f.Slots[in.A+1])
	if !ok || fault == noFault {
		r.fail("kind")
		return
	}
	r.raise(fault)
}

// ask asks. The frame remains at the place until there is a reply.
func (r *runner) ask(f *api.Frame, in api.Instr) {
	a, ok := askOf(r.code.Funcs[f.Fn], *f)
	if !ok {
		r.fail("kind")
		return
	}
	r.rest(api.Turn{Ask: a})
}

func (r *runner) arm(f *api.Frame, in api.Instr) { f.Pc++ }
