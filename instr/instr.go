// Package instr is no layer: it tells what the instructions of a code consist of, and where they lead, for all layers that read or change codes. See shared/doc/10-code.md.
package instr

import (
	"iter"
	"math"

	"seedbed/api"
)

// Role is what a number in an instruction stands for.
type Role int

// Roles. Of the slots, those are set that say so; the values of the others are used.
const (
	Zero     Role = iota // nothing: it is 0
	Slot                 // a slot
	Maybe                // a slot, or -1 for none
	Double               // a slot, and the one after it
	Set                  // a slot that is set
	MaybeSet             // a slot that is set, or -1 for none
	Place
	Function
	Unary  // an operator
	Binary // an operator
	Ask    // the kind of an ask
	Arm    // the operator of a case
	Flag   // 0 or 1
	Policy // of a channel
)

// List is what L contains: numbers of a role, from Least to Most.
type List struct {
	Of          Role
	Least, Most int
}

// Form is what an instruction contains.
type Form struct {
	Name    string
	A, B, C Role
	L       List
	V       bool // there can be a value
	Ends    bool // the next place does not follow
	Raises  bool // it can have a raise
}

// Forms holds the forms of instructions by their Ops.
type Forms map[int]Form

// Table returns the forms of all instructions, but for what Of adds.
func Table() Forms {
	return Forms{
		api.IConst:  {Name: "const", A: Set, V: true},
		api.IMove:   {Name: "move", A: Set, B: Slot},
		api.IUnary:  {Name: "unary", A: Set, B: Unary, C: Slot, Raises: true},
		api.IBinary: {Name: "binary", A: Set, B: Binary, C: Slot, L: slots(1), Raises: true},
		api.IJump:   {Name: "jump", A: Place, Ends: true},
		api.IFalse:  {Name: "false", A: Slot, B: Place, Raises: true},
		api.ICall:   {Name: "call", A: MaybeSet, B: Function, L: anySlots(), Raises: true},
		api.IReturn: {Name: "return", A: Maybe, Ends: true},
		api.IThrow:  {Name: "throw", A: Slot, Ends: true, Raises: true},
		api.IAsk:    {Name: "ask", A: MaybeSet, B: Ask, Raises: true},
		api.IArm:    {Name: "arm", A: Arm},
		api.ISwitch: {Name: "switch", A: Slot, L: List{Place, 1, math.MaxInt}, Ends: true, Raises: true},
		api.IFault:  {Name: "fault", A: Slot, B: Place},
		api.IRaise:  {Name: "raise", A: Double, Ends: true, Raises: true},
	}
}

// slots is a list of a number of slots.
func slots(n int) List { return List{Slot, n, n} }

// anySlots is a list of the arguments of some function.
func anySlots() List { return List{Slot, 0, math.MaxInt} }

// Of returns the form of an instruction, also what depends on its ask or its arm; false: its Op is none.
func (t Forms) Of(in api.Instr) (Form, bool) {
	f, ok := t[in.Op]
	switch in.Op {
	case api.IAsk:
		f.C, f.L = askForm(in.B)
	case api.IArm:
		f.L = armForm(in.A)
	}
	return f, ok
}

// askForm returns what C and L of an ask of a kind contain.
func askForm(kind int) (c Role, l List) {
	switch kind {
	case api.ASleep, api.AEmit, api.AAwait, api.ACancel, api.AReceive, api.AClose, api.ALock, api.AHold, api.AFree, api.AAcquire, api.ARelease:
		return Zero, slots(1)
	case api.ASend:
		return Zero, slots(2)
	case api.ASpawn:
		return Function, anySlots()
	case api.AChan:
		return Policy, slots(1)
	case api.ASelect:
		return Flag, List{Set, 1, 1}
	case api.AOpen:
		return Flag, List{Slot, 0, 1}
	case api.ALeave:
		return Zero, List{Double, 0, 1}
	}
	return Zero, List{}
}

// armForm returns what L of an arm of a case contains.
func armForm(op int) List {
	if op == api.CSend {
		return slots(2)
	}
	return slots(1)
}

// Fields visits the numbers in an instruction, with their roles.
func (t Forms) Fields(in *api.Instr) iter.Seq2[*int, Role] {
	f, _ := t.Of(*in)
	return func(yield func(*int, Role) bool) {
		if !yield(&in.A, f.A) || !yield(&in.B, f.B) || !yield(&in.C, f.C) {
			return
		}
		for i := range in.L {
			if !yield(&in.L[i], f.L.Of) {
				return
			}
		}
	}
}

// Next visits the places that can follow a place, but for a raise.
func (t Forms) Next(f api.FnCode, at int) iter.Seq[int] {
	in := f.Code[at]
	return func(yield func(int) bool) {
		if !t[in.Op].Ends && !yield(at+1) {
			return
		}
		for field, role := range t.Fields(&in) {
			if role == Place && !yield(*field) {
				return
			}
		}
	}
}

// Guard returns the position of the guard to which a raise at a place leads, -1 if there is none, or there can be no raise.
func (t Forms) Guard(f api.FnCode, at int) int {
	if !t[f.Code[at].Op].Raises {
		return -1
	}
	for i, g := range f.Guards {
		if g.From <= at && at < g.To {
			return i
		}
	}
	return -1
}

// CanRaise reports whether an instruction at a place from one to before another can have a raise.
func (t Forms) CanRaise(list []api.Instr, from, to int) bool {
	for _, in := range list[from:to] {
		if t[in.Op].Raises {
			return true
		}
	}
	return false
}

// IsSelect reports whether an instruction is an ask that has arms.
func IsSelect(in api.Instr) bool { return in.Op == api.IAsk && in.B == api.ASelect }

// Arms returns how many arms stand directly before a place.
func Arms(list []api.Instr, at int) int {
	n := 0
	for n < at && list[at-1-n].Op == api.IArm {
		n++
	}
	return n
}
