package code

import (
	"slices"

	"seedbed/api"
	"seedbed/instr"
	"seedbed/shape"
)

// maxSlots is the greatest number of slots of a function.
const maxSlots = 200

// checker checks a function of a code.
type checker struct {
	funcs []api.FnCode
	fn    api.FnCode
	forms instr.Forms
}

// headFits reports whether all is right with a function but its instructions and guards; at is its position.
func (k checker) headFits(at int) bool {
	f := k.fn
	taken := slices.ContainsFunc(k.funcs[:at], func(g api.FnCode) bool { return g.Name == f.Name })
	if taken || !shape.IsName(f.Name) || !within(f.Params, 0, api.MaxParams+1) || !within(f.Slots, f.Params, maxSlots) ||
		!within(len(f.Code), 1, api.MaxCode) || len(f.Guards) > api.MaxGuards {
		return false
	}
	return k.forms[f.Code[len(f.Code)-1].Op].Ends
}

func (k checker) guardsFit() bool {
	for _, g := range k.fn.Guards {
		if !k.isA(instr.Place, g.From) || !within(g.To, g.From+1, len(k.fn.Code)) || !k.isA(instr.Place, g.At) || !k.isA(instr.Double, g.Slot) {
			return false
		}
	}
	return true
}

// fits reports whether the instruction at a place contains what it should.
func (k checker) fits(at int) bool {
	in := k.fn.Code[at]
	f, ok := k.forms.Of(in)
	if !ok || !k.argsFit(in) || !within(len(in.L), f.L.Least, f.L.Most) {
		return false
	}
	for field, role := range k.forms.Fields(&in) {
		if !k.isA(role, *field) {
			return false
		}
	}
	if !shape.Valid(in.V) || !f.V && in.V != (api.Value{}) {
		return false
	}
	return !instr.IsSelect(in) || instr.Arms(k.fn.Code, at) <= api.MaxCases
}

// argsFit reports whether an instruction has as many arguments as its function has parameters, if it calls one.
func (k checker) argsFit(in api.Instr) bool {
	fn := in.B
	switch {
	case in.Op == api.IAsk && in.B == api.ASpawn:
		fn = in.C
	case in.Op != api.ICall:
		return true
	}
	return k.isA(instr.Function, fn) && len(in.L) == k.funcs[fn].Params
}

// isA reports whether a number stands for what its role says.
func (k checker) isA(r instr.Role, n int) bool {
	last := k.fn.Slots - 1
	switch r {
	case instr.Slot, instr.Set:
		return within(n, 0, last)
	case instr.Maybe, instr.MaybeSet:
		return within(n, -1, last)
	case instr.Double:
		return within(n, 0, last-1)
	case instr.Place:
		return within(n, 0, len(k.fn.Code)-1)
	case instr.Function:
		return within(n, 0, len(k.funcs)-1)
	case instr.Unary:
		return within(n, api.ENot, api.ENeg)
	case instr.Binary:
		return within(n, api.EEq, api.ERem)
	case instr.Ask:
		return within(n, api.AYield, api.ARelease)
	case instr.Arm:
		return within(n, api.CReceive, api.CAfter)
	case instr.Flag:
		return within(n, 0, 1)
	case instr.Policy:
		return within(n, api.PWait, api.PNewest)
	}
	return n == 0
}

func within(n, from, to int) bool { return n >= from && n <= to }
