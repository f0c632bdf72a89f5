package tidy

import (
	"slices"

	"seedbed/api"
	"seedbed/code"
	"seedbed/instr"
)

// unreached tells of each place whether it can't be reached.
func (e *editor) unreached() []bool {
	// The code is valid, also between passes.
	places, _ := code.Reached(e.code, e.index)
	list := slices.Repeat([]bool{true}, len(e.fn.Code))
	for _, at := range places {
		list[at] = false
	}
	return list
}

// prune removes what can't be reached.
func (e *editor) prune() bool {
	gone := e.unreached()
	// No raise leads to such a guard.
	e.fn.Guards = slices.DeleteFunc(e.fn.Guards, func(g api.Guard) bool { return gone[g.At] })
	return e.remove(gone)
}

// drop removes what does nothing. As all arms without a select are removed at once, none gets one by the removal of what stood between.
func (e *editor) drop() bool {
	live := e.live(true)
	gone := make([]bool, len(e.fn.Code))
	for at, in := range e.fn.Code {
		gone[at] = isVain(in, at) || e.isAlone(at) || isStore(in) && !live[at+1].has(in.A)
	}
	return e.remove(gone)
}

// isStore reports whether an instruction only sets a slot.
func isStore(in api.Instr) bool { return in.Op == api.IConst || in.Op == api.IMove }

// isAlone reports whether an instruction is an arm without a select.
func (e *editor) isAlone(at int) bool {
	if e.fn.Code[at].Op != api.IArm {
		return false
	}
	for e.fn.Code[at].Op == api.IArm {
		at++
	}
	return !instr.IsSelect(e.fn.Code[at])
}

// remove removes instructions. What leads to one of them leads to the next one that remains then, and the last one must remain.
func (e *editor) remove(gone []bool) bool {
	if !slices.Contains(gone, true) {
		return false
	}
	moved := map[int]int{}
	var left []api.Instr
	for at, in := range e.fn.Code {
		moved[at] = len(left)
		if !gone[at] {
			left = append(left, in)
		}
	}
	moved[len(e.fn.Code)] = len(left)
	e.fn.Code = left
	for at := range left {
		for field, role := range e.forms.Fields(&left[at]) {
			if role == instr.Place {
				*field = moved[*field]
			}
		}
	}
	for i, g := range e.fn.Guards {
		e.fn.Guards[i] = api.Guard{From: moved[g.From], To: moved[g.To], At: moved[g.At], Slot: g.Slot}
	}
	e.fn.Guards = slices.DeleteFunc(e.fn.Guards, func(g api.Guard) bool { return g.From == g.To })
	return true
}
