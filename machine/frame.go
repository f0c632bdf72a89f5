package machine

import (
	"slices"

	"seedbed/api"
)

// noSlot stands where an instruction or a frame names no slot.
const noSlot = -1

// newFrame is the beginning of a call.
func newFrame(c api.Code, fn, to int, args []api.Value) api.Frame {
	f := api.Frame{Fn: fn, To: to, Slots: make([]api.Value, c.Funcs[fn].Slots)}
	copy(f.Slots, args)
	return f
}

// cloned returns equal frames that share no memory with others.
func cloned(frames []api.Frame) []api.Frame {
	out := make([]api.Frame, len(frames))
	for i, f := range frames {
		f.Slots = make([]api.Value, len(f.Slots))
		copy(f.Slots, frames[i].Slots)
		out[i] = f
	}
	return out
}

// linked reports whether frames are calls of a valid code within each other, the last one of which is at an ask.
func linked(c api.Code, frames []api.Frame) bool {
	if len(frames) < 1 || len(frames) > api.MaxFrames || frames[0].To != noSlot {
		return false
	}
	for i, f := range frames {
		if !fits(c, f) || i > 0 && !called(c, frames[i-1], f) {
			return false
		}
	}
	return instrOf(c, frames[len(frames)-1]).Op == api.IAsk
}

// called reports whether a frame is the call that another one waits for.
func called(c api.Code, f, next api.Frame) bool {
	in := instrOf(c, f)
	return in.Op == api.ICall && in.B == next.Fn && in.A == next.To
}

// instrOf returns the instruction at which a frame is.
func instrOf(c api.Code, f api.Frame) api.Instr { return c.Funcs[f.Fn].Code[f.Pc] }

// fits reports whether a frame has a function, a place and slots of a code.
func fits(c api.Code, f api.Frame) bool {
	if f.Fn < 0 || f.Fn >= len(c.Funcs) {
		return false
	}
	fn := c.Funcs[f.Fn]
	return f.Pc >= 0 && f.Pc < len(fn.Code) && len(f.Slots) == fn.Slots && !slices.ContainsFunc(f.Slots, isWrong)
}

// valuesOf returns the values of slots, in new memory.
func valuesOf(f api.Frame, slots []int) []api.Value {
	var list []api.Value
	for _, slot := range slots {
		list = append(list, f.Slots[slot])
	}
	return list
}
