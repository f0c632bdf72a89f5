package colour

import (
	"slices"

	"seedbed/api"
	"seedbed/shape"
)

// callers returns which functions each function calls, by the operators of the statements that do it.
func callers(funcs []api.Func) map[int]relation {
	by := map[int]relation{}
	for f := range funcs {
		for s := range shape.Stmts(funcs[f].Body) {
			if s.Fn != "" {
				r := by[s.Op]
				r[f] |= 1 << s.Index
				by[s.Op] = r
			}
		}
	}
	return by
}

func directCalls(funcs []api.Func) relation { return callers(funcs)[api.SCall] }

func allCalls(funcs []api.Func) relation {
	var all relation
	for _, r := range callers(funcs) {
		for f := range r {
			all[f] |= r[f]
		}
	}
	return all
}

func calls(funcs []api.Func) [][]int { return allCalls(funcs).lists(len(funcs)) }

func reached(funcs []api.Func) [][]int { return allCalls(funcs).closed().lists(len(funcs)) }

func rings(funcs []api.Func) [][]int {
	reach := directCalls(funcs).closed()
	var out [][]int
	var taken set
	for f := range reach {
		var ring set
		for _, g := range reach[f].list() {
			if reach[g].has(f) {
				ring |= 1 << g
			}
		}
		if ring != 0 && !taken.has(f) {
			out = append(out, ring.list())
			taken |= ring
		}
	}
	return out
}

func levels(funcs []api.Func) []int {
	direct := directCalls(funcs)
	endless := direct.endless()
	all := settle(measures{}, func(levels measures) measures {
		for f := range direct {
			levels[f] = 1
			for _, g := range direct[f].list() {
				levels[f] = max(levels[f], 1+levels[g])
			}
			if endless.has(f) {
				levels[f] = -1
			}
		}
		return levels
	})
	return slices.Clone(all[:len(funcs)])
}
