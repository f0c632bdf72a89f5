package code

import (
	"iter"

	"seedbed/api"
	"seedbed/instr"
)

// reached returns the places of a function of a valid code that can be reached.
func reached(f api.FnCode) []int {
	way := follower{fn: f, forms: instr.Table()}
	seen := make([]bool, len(f.Code))
	seen[0] = true
	for waiting := []int{0}; len(waiting) > 0; {
		at := waiting[len(waiting)-1]
		waiting = waiting[:len(waiting)-1]
		for next := range way.from(at) {
			if !seen[next] {
				seen[next] = true
				waiting = append(waiting, next)
			}
		}
	}
	var list []int
	for at, is := range seen {
		if is {
			list = append(list, at)
		}
	}
	return list
}

// follower follows the ways of instructions through a function of a valid code.
type follower struct {
	fn    api.FnCode
	forms instr.Forms
}

// from visits the places that are reached if a place is.
func (w follower) from(at int) iter.Seq[int] {
	return func(yield func(int) bool) {
		for next := range w.forms.Next(w.fn, at) {
			if !yield(next) {
				return
			}
		}
		if g := w.forms.Guard(w.fn, at); g >= 0 && !yield(w.fn.Guards[g].At) {
			return
		}
		if !instr.IsSelect(w.fn.Code[at]) {
			return
		}
		for n := range instr.Arms(w.fn.Code, at) {
			if !yield(at - 1 - n) {
				return
			}
		}
	}
}
