package code

import (
	"math"

	"seedbed/api"
)

// role is what a number in an instruction stands for.
type role int

const (
	zero   role = iota // nothing: it is 0
	slot               // a slot
	maybe              // a slot, or -1 for none
	double             // a slot with another one after it
	place
	function
	unary  // an operator
	binary // an operator
	ask    // the kind of an ask
	arm    // the operator of a case
	flag   // 0 or 1
	policy // of a channel
)

// list is what L contains: elements of a role, from least to most.
type list struct {
	of          role
	least, most int
}

// form is what an instruction contains.
type form struct {
	name    string
	a, b, c role
	l       list
	v       bool // there can be a value
	ends    bool // the next place does not follow
	raises  bool // it can have a raise
}

// instructions holds the forms of instructions by their Ops; what L contains, and C of an ask, is said below where the Op alone does not say it.
func instructions() map[int]form {
	return map[int]form{
		api.IConst:  {name: "const", a: slot, v: true},
		api.IMove:   {name: "move", a: slot, b: slot},
		api.IUnary:  {name: "unary", a: slot, b: unary, c: slot, raises: true},
		api.IBinary: {name: "binary", a: slot, b: binary, c: slot, l: slots(1), raises: true},
		api.IJump:   {name: "jump", a: place, ends: true},
		api.IFalse:  {name: "false", a: slot, b: place, raises: true},
		api.ICall:   {name: "call", a: maybe, b: function, raises: true},
		api.IReturn: {name: "return", a: maybe, ends: true},
		api.IThrow:  {name: "throw", a: slot, ends: true, raises: true},
		api.IAsk:    {name: "ask", a: maybe, b: ask, raises: true},
		api.IArm:    {name: "arm", a: arm},
		api.ISwitch: {name: "switch", a: slot, l: list{place, 1, math.MaxInt}, ends: true, raises: true},
		api.IFault:  {name: "fault", a: slot, b: place},
		api.IRaise:  {name: "raise", a: double, ends: true, raises: true},
	}
}

// slots is a list of a number of slots.
func slots(n int) list { return list{slot, n, n} }

// askForm returns what C and L of an ask of a kind contain, but for a function and its arguments.
func askForm(kind int) (c role, l list) {
	switch kind {
	case api.ASleep, api.AEmit, api.AAwait, api.ACancel, api.AReceive, api.AClose, api.ALock, api.AHold, api.AFree, api.AAcquire, api.ARelease:
		return zero, slots(1)
	case api.ASend:
		return zero, slots(2)
	case api.AChan:
		return policy, slots(1)
	case api.ASelect:
		return flag, slots(1)
	case api.AOpen:
		return flag, list{slot, 0, 1}
	case api.ALeave:
		return zero, list{double, 0, 1}
	}
	return zero, list{}
}

// armForm returns what L of an arm of a case contains.
func armForm(op int) list {
	if op == api.CSend {
		return slots(2)
	}
	return slots(1)
}
