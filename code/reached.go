package code

import (
	"iter"
	"slices"

	"seedbed/api"
)

// reached returns the places of a function of a valid code that can be reached.
func reached(f api.FnCode) []int {
	way := follower{fn: f, forms: instructions()}
	seen := make([]bool, len(f.Code))
	seen[0] = true
	for waiting := []int{0}; len(waiting) > 0; {
		at := waiting[len(waiting)-1]
		waiting = waiting[:len(waiting)-1]
		for next := range way.from(at) {
			if !seen[next] {
				seen[next] = true
				waiting = append(waiting, next)
			}
		}
	}
	var list []int
	for at, is := range seen {
		if is {
			list = append(list, at)
		}
	}
	return list
}

// follower follows the ways of instructions through a function of a valid code.
type follower struct {
	fn    api.FnCode
	forms map[int]form
}

// from visits the places that are reached if a place is.
func (w follower) from(at int) iter.Seq[int] {
	in := w.fn.Code[at]
	f := w.forms[in.Op]
	return func(yield func(int) bool) {
		if !f.ends && !yield(at+1) || f.a == place && !yield(in.A) || f.b == place && !yield(in.B) {
			return
		}
		if f.l.of == place && !yieldAll(in.L, yield) {
			return
		}
		if f.raises {
			g := guardOf(w.fn, at)
			if g >= 0 && !yield(w.fn.Guards[g].At) {
				return
			}
		}
		if isSelect(in) {
			for n := range arms(w.fn.Code, at) {
				if !yield(at - 1 - n) {
					return
				}
			}
		}
	}
}

// yieldAll reports whether the visit goes on behind a list.
func yieldAll(list []int, yield func(int) bool) bool {
	for _, n := range list {
		if !yield(n) {
			return false
		}
	}
	return true
}

// guardOf returns the position of the guard to which a raise at a place leads, -1 if there is none.
func guardOf(f api.FnCode, at int) int {
	return slices.IndexFunc(f.Guards, func(g api.Guard) bool { return g.From <= at && at < g.To })
}
