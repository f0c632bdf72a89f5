package colour

import (
	"slices"

	"seedbed/api"
	"seedbed/shape"
)

// Colours of functions.
const (
	asks   = 1
	waits  = 2
	throws = 4
	tasks  = 8
)

// stmtColours holds the colours that each statement gives its function by its operator, whatever it calls.
var stmtColours = [api.SProduce + 1]int{
	api.SCall:    throws, // calls can be too deep
	api.SSpawn:   asks | throws | tasks,
	api.SAwait:   asks | waits | throws,
	api.SReceive: asks | waits | throws,
	api.SChan:    asks | throws,
	api.SLock:    asks | throws,
	api.SNow:     asks,
	api.SSend:    asks | waits | throws,
	api.SClose:   asks,
	api.SSleep:   asks | waits,
	api.SYield:   asks | waits,
	api.SEmit:    asks,
	api.SThrow:   throws,
	api.SCancel:  asks,
	api.SScope:   asks | waits | throws,
	api.SShield:  asks,
	api.SUse:     asks,
	api.SHold:    asks | waits | throws,
	api.SSelect:  asks | waits | throws,
	api.SEach:    asks | waits | throws | tasks,
	api.SProduce: asks | waits | throws,
}

// colours returns the colours of functions, which have those of what they call directly.
func colours(funcs []api.Func) []int {
	var own measures
	for f := range funcs {
		own[f] = ownColours(funcs[f])
	}
	direct := directCalls(funcs)
	all := settle(own, func(colours measures) measures {
		for f := range direct {
			for _, g := range direct[f].list() {
				colours[f] |= colours[g]
			}
		}
		return colours
	})
	return slices.Clone(all[:len(funcs)])
}

// ownColours returns the colours that a function has by itself, whatever it calls.
func ownColours(f api.Func) int {
	c := 0
	if f.Flow {
		c = asks
	}
	for s := range shape.Stmts(f.Body) {
		c |= stmtColours[s.Op]
		for e := range shape.Exprs(s) {
			if canFail(e.Op) {
				c |= throws
			}
		}
	}
	return c
}

// canFail reports whether an operator can fail for operands of the kinds that it wants.
func canFail(op int) bool { return op == api.ENeg || op >= api.EAdd && op <= api.ERem }
