package code

import (
	"slices"

	"seedbed/api"
	"seedbed/shape"
)

// maxSlots is the greatest number of slots of a function.
const maxSlots = 200

// checker checks a function of a code.
type checker struct {
	funcs []api.FnCode
	fn    api.FnCode
	forms map[int]form
}

// headFits reports whether all is right with a function but its instructions and guards; at is its position.
func (k checker) headFits(at int) bool {
	f := k.fn
	taken := slices.ContainsFunc(k.funcs[:at], func(g api.FnCode) bool { return g.Name == f.Name })
	if taken || !shape.IsName(f.Name) || !within(f.Params, 0, api.MaxParams+1) || !within(f.Slots, f.Params, maxSlots) ||
		!within(len(f.Code), 1, api.MaxCode) || len(f.Guards) > api.MaxGuards {
		return false
	}
	return k.forms[f.Code[len(f.Code)-1].Op].ends
}

func (k checker) guardsFit() bool {
	for _, g := range k.fn.Guards {
		if !k.isA(place, g.From) || !within(g.To, g.From+1, len(k.fn.Code)) || !k.isA(place, g.At) || !k.isA(double, g.Slot) {
			return false
		}
	}
	return true
}

// fits reports whether the instruction at a place contains what it should.
func (k checker) fits(at int) bool {
	in := k.fn.Code[at]
	f, ok := k.formOf(in)
	if !ok || !k.isA(f.a, in.A) || !k.isA(f.b, in.B) || !k.isA(f.c, in.C) || !within(len(in.L), f.l.least, f.l.most) {
		return false
	}
	for _, n := range in.L {
		if !k.isA(f.l.of, n) {
			return false
		}
	}
	if !shape.Valid(in.V) || !f.v && in.V != (api.Value{}) {
		return false
	}
	return !isSelect(in) || arms(k.fn.Code, at) <= api.MaxCases
}

// formOf returns what an instruction should contain, which can depend on what it contains; false: its Op is none.
func (k checker) formOf(in api.Instr) (form, bool) {
	f, ok := k.forms[in.Op]
	switch in.Op {
	case api.ICall:
		f.l = k.args(in.B)
	case api.IAsk:
		f.c, f.l = askForm(in.B)
		if in.B == api.ASpawn {
			f.c, f.l = function, k.args(in.C)
		}
	case api.IArm:
		f.l = armForm(in.A)
	}
	return f, ok
}

// args is the list of the arguments of a function, if there is one.
func (k checker) args(fn int) list {
	if !k.isA(function, fn) {
		return list{}
	}
	return slots(k.funcs[fn].Params)
}

// isA reports whether a number stands for what its role says.
func (k checker) isA(r role, n int) bool {
	last := k.fn.Slots - 1
	switch r {
	case slot:
		return within(n, 0, last)
	case maybe:
		return within(n, -1, last)
	case double:
		return within(n, 0, last-1)
	case place:
		return within(n, 0, len(k.fn.Code)-1)
	case function:
		return within(n, 0, len(k.funcs)-1)
	case unary:
		return within(n, api.ENot, api.ENeg)
	case binary:
		return within(n, api.EEq, api.ERem)
	case ask:
		return within(n, api.AYield, api.ARelease)
	case arm:
		return within(n, api.CReceive, api.CAfter)
	case flag:
		return within(n, 0, 1)
	case policy:
		return within(n, api.PWait, api.PNewest)
	}
	return n == 0
}

func within(n, from, to int) bool { return n >= from && n <= to }

func isSelect(in api.Instr) bool { return in.Op == api.IAsk && in.B == api.ASelect }

// arms returns how many arms stand directly before a place.
func arms(code []api.Instr, at int) int {
	n := 0
	for n < at && code[at-1-n].Op == api.IArm {
		n++
	}
	return n
}
