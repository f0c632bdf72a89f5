package tidy

import (
	"slices"

	"seedbed/api"
	"seedbed/eval"
	"seedbed/instr"
)

// editor changes a function of a valid code in its place.
type editor struct {
	code  api.Code
	index int         // the position of the function
	fn    *api.FnCode // the function, as it stands in the code
	forms instr.Forms
}

func newEditor(c api.Code, index int) *editor {
	return &editor{code: c, index: index, fn: &c.Funcs[index], forms: instr.Table()}
}

// pass makes a function valid and equivalent, but shorter in some way, and reports whether it has changed anything.
type pass func() bool

// repeat repeats passes until none changes anything.
func repeat(passes []pass) {
rounds:
	for {
		for _, change := range passes {
			if change() {
				continue rounds
			}
		}
		break rounds
	}
}

func (e *editor) isTidy() bool {
	if slices.Contains(e.unreached(), true) || slices.ContainsFunc(e.fn.Guards, e.isIdle) {
		return false
	}
	for at, in := range e.fn.Code {
		if isVain(in, at) || in.Op == api.IJump && e.end(in.A) != in.A {
			return false
		}
	}
	return true
}

// isVain reports whether an instruction at a place does nothing, wherever it stands.
func isVain(in api.Instr, at int) bool {
	return in.Op == api.IMove && in.A == in.B || in.Op == api.IJump && in.A == at+1
}

// isIdle reports whether there is no raise that a guard could lead anywhere.
func (e *editor) isIdle(g api.Guard) bool { return !e.forms.CanRaise(e.fn.Code, g.From, g.To) }

// unguard removes guards that are idle.
func (e *editor) unguard() bool {
	before := len(e.fn.Guards)
	e.fn.Guards = slices.DeleteFunc(e.fn.Guards, e.isIdle)
	return len(e.fn.Guards) < before
}

// thread leads all that leads to a jump to where that leads.
func (e *editor) thread() bool {
	changed := false
	follow := func(to *int) {
		if end := e.end(*to); end != *to {
			*to, changed = end, true
		}
	}
	// The other way round, a long row of jumps would be gone through from each of them.
	for at := len(e.fn.Code) - 1; at >= 0; at-- {
		for field, role := range e.forms.Fields(&e.fn.Code[at]) {
			if role == instr.Place {
				follow(field)
			}
		}
	}
	for i := range e.fn.Guards {
		follow(&e.fn.Guards[i].At)
	}
	return changed
}

// end returns the place to which a place leads by jumps alone: one without a jump, or a jump that leads to itself.
func (e *editor) end(at int) int {
	seen := map[int]bool{}
	for e.fn.Code[at].Op == api.IJump && !seen[at] {
		seen[at] = true
		at = e.fn.Code[at].A
	}
	return at
}

// fold computes the operators of constants.
func (e *editor) fold() bool {
	changed := false
	led := e.led()
	known := map[int]api.Value{} // the constants that are in slots
	for at := range e.fn.Code {
		if led[at] {
			clear(known)
		}
		in := &e.fn.Code[at]
		if v, ok := computed(*in, known); ok {
			*in = api.Instr{Op: api.IConst, A: in.A, V: v}
			changed = true
		}
		for field, role := range e.forms.Fields(in) {
			if role == instr.Set || role == instr.MaybeSet {
				delete(known, *field)
			}
		}
		if in.Op == api.IConst {
			known[in.A] = in.V
		}
	}
	return changed
}

// led tells of each place whether something leads to it, other than the one before it.
func (e *editor) led() []bool {
	led := make([]bool, len(e.fn.Code))
	for at := range e.fn.Code {
		for field, role := range e.forms.Fields(&e.fn.Code[at]) {
			if role == instr.Place {
				led[*field] = true
			}
		}
	}
	for _, g := range e.fn.Guards {
		led[g.At] = true
	}
	return led
}

// computed returns the value of an operator of constants; false: it is none, or has a fault.
func computed(in api.Instr, known map[int]api.Value) (api.Value, bool) {
	v, ok := known[in.C]
	fault := api.Fault{}
	switch {
	case !ok:
		return api.Value{}, false
	case in.Op == api.IUnary:
		v, fault, _ = eval.Unary(in.B, v)
	case in.Op == api.IBinary:
		w, ok := known[in.L[0]]
		if !ok {
			return api.Value{}, false
		}
		v, fault, _ = eval.Binary(in.B, v, w)
	default:
		return api.Value{}, false
	}
	return v, fault == api.Fault{}
}
