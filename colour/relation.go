package colour

import "seedbed/api"

// set is a set of functions: the bit n says whether the function n is in it.
type set uint16

func (s set) has(n int) bool { return s>>n&1 == 1 }

// list returns the functions in a set, in ascending order.
func (s set) list() []int {
	var out []int
	for n := range api.MaxFuncs {
		if s.has(n) {
			out = append(out, n)
		}
	}
	return out
}

// relation has a set for each function: those that it calls, or those that it reaches.
type relation [api.MaxFuncs]set

// lists returns the sets of the first n functions.
func (r relation) lists(n int) [][]int {
	var out [][]int
	for _, s := range r[:n] {
		out = append(out, s.list())
	}
	return out
}

// closed returns the functions that each function reaches.
func (r relation) closed() relation {
	return settle(r, func(r relation) relation {
		for f := range r {
			for _, g := range r[f].list() {
				r[f] |= r[g]
			}
		}
		return r
	})
}

// endless returns the functions that reach one that reaches itself.
func (r relation) endless() set {
	reach := r.closed()
	var ringed, out set
	for f := range reach {
		if reach[f].has(f) {
			ringed |= 1 << f
		}
	}
	for f := range reach {
		if reach[f]&ringed != 0 {
			out |= 1 << f
		}
	}
	return out
}

// measures has a number for each function.
type measures [api.MaxFuncs]int

// settle changes something again and again, until nothing changes.
func settle[T comparable](x T, change func(T) T) T {
	for {
		next := change(x)
		if next == x {
			return x
		}
		x = next
	}
}
