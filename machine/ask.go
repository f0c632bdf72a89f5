package machine

import (
	"slices"

	"seedbed/api"
	"seedbed/eval"
)

// askOf returns what the IAsk asks for at which a frame is; false: it is a raise instead.
func askOf(fn api.FnCode, f api.Frame) (api.Ask, bool) {
	in := fn.Code[f.Pc]
	v := valuesOf(f, in.L)
	a, ok := api.Ask{Kind: in.B}, true
	switch in.B {
	case api.ASleep, api.ALock, api.AAcquire, api.ARelease:
		a.N, ok = numberOf(v[0])
	case api.AChan:
		a.N, ok = numberOf(v[0])
		a.M = in.C
	case api.AEmit, api.AAwait, api.ACancel, api.AReceive, api.AClose, api.AHold, api.AFree:
		a.V = v[0]
	case api.ASend:
		a.V, a.W = v[0], v[1]
	case api.ASpawn:
		a.Fn, a.Args = in.C, v
	case api.ASelect:
		a.N = in.C
		a.Arms, ok = armsOf(fn, f)
	case api.AOpen:
		a.N, a.M = in.C, -1
		if len(v) > 0 {
			a.M, ok = numberOf(v[0])
		}
	case api.ALeave:
		if len(v) > 0 {
			a.Fault, ok = faultOf(v[0], f.Slots[in.L[0]+1])
		}
	}
	if !ok {
		return api.Ask{}, false
	}
	return a, true
}

// armsOf returns the arms of the instructions directly before the place of a frame; false: the time of one is no number.
func armsOf(fn api.FnCode, f api.Frame) ([]api.Arm, bool) {
	var list []api.Arm
	for at := f.Pc - 1; at >= 0 && fn.Code[at].Op == api.IArm; at-- {
		in := fn.Code[at]
		v := valuesOf(f, in.L)
		arm, ok := api.Arm{Op: in.A}, true
		switch in.A {
		case api.CReceive:
			arm.V = v[0]
		case api.CSend:
			arm.V, arm.W = v[0], v[1]
		case api.CAfter:
			arm.N, ok = numberOf(v[0])
		}
		if !ok {
			return nil, false
		}
		list = append(list, arm)
	}
	slices.Reverse(list)
	return list, true
}

// numberOf returns the number of a KInt; false: the value is none.
func numberOf(v api.Value) (int, bool) {
	if v.Kind != api.KInt {
		return 0, false
	}
	return v.N, true
}

// faultOf returns the fault with a kind and a text; false: they are not those of a valid one.
func faultOf(kind, text api.Value) (api.Fault, bool) {
	f := api.Fault{Kind: kind.N, Text: text.S}
	if kind.Kind != api.KInt || text.Kind != api.KText || !eval.ValidFault(f) {
		return api.Fault{}, false
	}
	return f, true
}
