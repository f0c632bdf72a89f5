package tidy

import (
	"iter"

	"seedbed/api"
	"seedbed/instr"
)

// slotSet is a set of slots, of which there are at most 200.
type slotSet [4]uint64

const wordBits = 64

func (s *slotSet) add(slot int) { s[slot/wordBits] |= 1 << (slot % wordBits) }

func (s slotSet) has(slot int) bool { return s[slot/wordBits]>>(slot%wordBits)&1 == 1 }

func (s slotSet) with(t slotSet) slotSet {
	for i, word := range t {
		s[i] |= word
	}
	return s
}

func (s slotSet) without(t slotSet) slotSet {
	for i, word := range t {
		s[i] &^= word
	}
	return s
}

// list returns the slots of a set in ascending order.
func (s slotSet) list() []int {
	var list []int
	for slot := range len(s) * wordBits {
		if s.has(slot) {
			list = append(list, slot)
		}
	}
	return list
}

// pairOf is the set of a slot and the one after it.
func pairOf(slot int) slotSet {
	var s slotSet
	s.add(slot)
	s.add(slot + 1)
	return s
}

// live returns for each place the slots that are live before it. If faint is set, a store uses nothing if what it sets is not live.
func (e *editor) live(faint bool) []slotSet {
	before := make([]slotSet, len(e.fn.Code))
	comes := make([][]int, len(e.fn.Code)) // from where one comes to a place
	var waiting []int
	for at := range e.fn.Code {
		waiting = append(waiting, at)
		for next := range e.next(at) {
			comes[next] = append(comes[next], at)
		}
	}
	for len(waiting) > 0 {
		at := waiting[len(waiting)-1]
		waiting = waiting[:len(waiting)-1]
		if now := e.before(at, before, faint); now != before[at] {
			before[at] = now
			waiting = append(waiting, comes[at]...)
		}
	}
	return before
}

// next visits the places that can follow a place, also by a raise.
func (e *editor) next(at int) iter.Seq[int] {
	return func(yield func(int) bool) {
		for next := range e.forms.Next(*e.fn, at) {
			if !yield(next) {
				return
			}
		}
		if g := e.forms.Guard(*e.fn, at); g >= 0 {
			yield(e.fn.Guards[g].At)
		}
	}
}

// before returns the slots that are live before a place, given those before the places that can follow it.
func (e *editor) before(at int, sets []slotSet, faint bool) slotSet {
	in := e.fn.Code[at]
	var live slotSet
	for next := range e.forms.Next(*e.fn, at) {
		live = live.with(sets[next])
	}
	if faint && isStore(in) && !live.has(in.A) {
		return live
	}
	uses, makes := e.slots(in)
	live = live.without(makes).with(uses)
	if instr.IsSelect(in) {
		for n := range instr.Arms(e.fn.Code, at) {
			uses, _ := e.slots(e.fn.Code[at-1-n])
			live = live.with(uses)
		}
	}
	if g := e.forms.Guard(*e.fn, at); g >= 0 {
		guard := e.fn.Guards[g]
		live = live.with(sets[guard.At].without(pairOf(guard.Slot)))
	}
	return live
}

// slots returns the slots whose values an instruction uses, and those that it sets.
func (e *editor) slots(in api.Instr) (uses, makes slotSet) {
	for field, role := range e.forms.Fields(&in) {
		switch {
		case role == instr.Slot, role == instr.Maybe && *field >= 0:
			uses.add(*field)
		case role == instr.Double:
			uses = uses.with(pairOf(*field))
		case role == instr.Set, role == instr.MaybeSet && *field >= 0:
			makes.add(*field)
		}
	}
	return uses, makes
}

// spare removes slots that are used nowhere. The others remain in their order, so that pairs remain pairs.
func (e *editor) spare() bool {
	used := e.used()
	moved := map[int]int{-1: -1}
	left := 0
	for slot := range e.fn.Slots {
		if used.has(slot) {
			moved[slot] = left
			left++
		}
	}
	if left == e.fn.Slots {
		return false
	}
	for at := range e.fn.Code {
		for field, role := range e.forms.Fields(&e.fn.Code[at]) {
			switch role {
			case instr.Slot, instr.Maybe, instr.Double, instr.Set, instr.MaybeSet:
				*field = moved[*field]
			}
		}
	}
	for i := range e.fn.Guards {
		e.fn.Guards[i].Slot = moved[e.fn.Guards[i].Slot]
	}
	e.fn.Slots = left
	return true
}

// used returns the slots that are parameters, or in an instruction or a guard.
func (e *editor) used() slotSet {
	var used slotSet
	for slot := range e.fn.Params {
		used.add(slot)
	}
	for _, in := range e.fn.Code {
		uses, makes := e.slots(in)
		used = used.with(uses).with(makes)
	}
	for _, g := range e.fn.Guards {
		used = used.with(pairOf(g.Slot))
	}
	return used
}
