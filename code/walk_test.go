package code

import (
	"slices"
	"testing"

	"seedbed/api"
	"seedbed/eval"
)

// walker executes a code with random replies. What is outside of its places and slots is an index that is out of range.
type walker struct {
	m     *maker
	c     api.Code
	calls int
	steps int // that are left
	did   map[int]int
}

// frame is a call of a function.
type frame struct {
	f     api.FnCode
	at    int
	slots []api.Value
	fault api.Fault // of the instruction that was executed
}

var kindFault = api.Fault{Kind: api.FThrow, Text: "kind"}

func number(n int) api.Value { return api.Value{Kind: api.KInt, N: n} }

func text(s string) api.Value { return api.Value{Kind: api.KText, S: s} }

// call executes a function until it ends, or no steps are left.
func (w *walker) call(fn int, args []api.Value) (api.Value, api.Fault) {
	w.calls++
	defer func() { w.calls-- }()
	f := &frame{f: w.c.Funcs[fn]}
	f.slots = make([]api.Value, f.f.Slots)
	copy(f.slots[:f.f.Params], args)
	for w.steps > 0 {
		w.steps--
		in := f.f.Code[f.at]
		w.did[in.Op]++
		if in.Op == api.IReturn {
			return f.valueOf(in.A), api.Fault{}
		}
		f.fault = api.Fault{}
		next := w.step(f, in)
		if f.fault == (api.Fault{}) {
			f.at = next
			continue
		}
		g := slices.IndexFunc(f.f.Guards, func(g api.Guard) bool { return g.From <= f.at && g.To > f.at })
		if g < 0 {
			return api.Value{}, f.fault
		}
		guard := f.f.Guards[g]
		f.slots[guard.Slot], f.slots[guard.Slot+1], f.at = number(f.fault.Kind), text(f.fault.Text), guard.At
	}
	return api.Value{}, api.Fault{}
}

// valueOf returns the value of a slot, and none of -1.
func (f *frame) valueOf(slot int) api.Value {
	if slot == -1 {
		return api.Value{}
	}
	return f.slots[slot]
}

// set gives a value to a slot, unless there is a fault, or the slot is -1.
func (f *frame) set(slot int, v api.Value, fault api.Fault) {
	if f.fault = fault; fault == (api.Fault{}) && slot != -1 {
		f.slots[slot] = v
	}
}

func (f *frame) valuesOf(slots []int) []api.Value {
	var list []api.Value
	for _, slot := range slots {
		list = append(list, f.slots[slot])
	}
	return list
}

// step executes an instruction, and returns the place that follows.
func (w *walker) step(f *frame, in api.Instr) int {
	switch in.Op {
	case api.IConst:
		f.slots[in.A] = in.V
	case api.IMove:
		f.slots[in.A] = f.slots[in.B]
	case api.IUnary:
		v, fault, _ := eval.Unary(in.B, f.slots[in.C])
		f.set(in.A, v, fault)
	case api.IBinary:
		v, fault, _ := eval.Binary(in.B, f.slots[in.C], f.slots[in.L[0]])
		f.set(in.A, v, fault)
	case api.ICall:
		if w.calls == api.MaxFrames {
			f.fault = api.Fault{Kind: api.FThrow, Text: "deep"}
			break
		}
		v, fault := w.call(in.B, f.valuesOf(in.L))
		f.set(in.A, v, fault)
	case api.IAsk:
		w.ask(f, in)
	case api.IArm:
	default:
		return f.leave(in)
	}
	return f.at + 1
}

// leave executes an instruction that leads somewhere.
func (f *frame) leave(in api.Instr) int {
	v := api.Value{}
	if in.Op != api.IJump {
		v = f.slots[in.A]
	}
	switch in.Op {
	case api.IJump:
		return in.A
	case api.IFalse:
		if v.Kind != api.KBool {
			f.fault = kindFault
		} else if v.N == 0 {
			return in.B
		}
	case api.IFault:
		if v != number(api.FThrow) {
			return in.B
		}
	case api.ISwitch:
		if v.Kind == api.KInt && v.N >= 0 && v.N < len(in.L) {
			return in.L[v.N]
		}
		f.fault = kindFault
	case api.IThrow:
		f.fault = kindFault
		if v.Kind == api.KText {
			f.fault.Text = v.S
		}
	case api.IRaise:
		w := f.slots[in.A+1]
		f.fault = api.Fault{Kind: v.N, Text: w.S}
		if v.Kind != api.KInt || w.Kind != api.KText || v.N == api.FNone || !eval.ValidFault(f.fault) {
			f.fault = kindFault
		}
	}
	return f.at + 1
}

// ask makes an ask, which takes the values of its slots, and gets a random reply.
func (w *walker) ask(f *frame, in api.Instr) {
	values := f.valuesOf(in.L)
	if in.B == api.ASpawn {
		copy(make([]api.Value, w.c.Funcs[in.C].Params), values)
	}
	if in.B == api.ALeave && len(in.L) == 1 {
		values = append(values, f.slots[in.L[0]+1])
	}
	for at := f.at - 1; in.B == api.ASelect && at >= 0 && f.f.Code[at].Op == api.IArm; at-- {
		values = append(values, f.valuesOf(f.f.Code[at].L)...)
	}
	switch w.m.r.IntN(6) {
	case 0:
		f.fault = api.Fault{Kind: api.FThrow, Text: "closed"}
	case 1:
		f.fault = api.Fault{Kind: api.FCancel}
	default:
		f.set(in.A, append(values, w.m.value())[w.m.r.IntN(len(values)+1)], api.Fault{})
		if in.B == api.ASelect {
			f.slots[in.L[0]] = number(w.m.r.IntN(5))
		}
	}
}

// TestP104Walks checks that random codes never leave their places and slots.
func TestP104Walks(t *testing.T) {
	did := map[int]int{}
	each(t, 1500, func(m *maker, c api.Code) {
		for fn, f := range c.Funcs {
			for range 5 {
				var args []api.Value
				for range f.Params {
					args = append(args, m.value())
				}
				w := &walker{m: m, c: c, steps: 300, did: did}
				w.call(fn, args)
			}
		}
	})
	for op := 1; op < len(opNames); op++ {
		if did[op] < 1000 {
			t.Errorf("only %d of %s are executed", did[op], opNames[op])
		}
	}
}
