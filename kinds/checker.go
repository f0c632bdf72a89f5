package kinds

import (
	"slices"

	"seedbed/api"
	"seedbed/shape"
)

// anything stands where every kind is wanted.
const anything = -2

// rule is which kinds a statement or a case wants, and the kind of the variable that it makes.
type rule struct {
	wants []int
	makes int
}

// stmtRules holds the rules of statements by their operators, but for what other statements and functions say; those that are not there want nothing.
func stmtRules() map[int]rule {
	return map[int]rule{
		api.SLet:     {wants: []int{anything}},
		api.SSpawn:   {makes: api.KTask},
		api.SAwait:   {[]int{api.KTask}, api.KInt},
		api.SReceive: {[]int{api.KChan}, api.KInt},
		api.SChan:    {[]int{api.KInt}, api.KChan},
		api.SLock:    {[]int{api.KInt}, api.KLock},
		api.SNow:     {makes: api.KInt},
		api.SSend:    {wants: []int{api.KChan, api.KInt}},
		api.SClose:   {wants: []int{api.KChan}},
		api.SSleep:   {wants: []int{api.KInt}},
		api.SEmit:    {wants: []int{anything}},
		api.SThrow:   {wants: []int{api.KText}},
		api.SCancel:  {wants: []int{api.KTask}},
		api.SIf:      {wants: []int{api.KBool}},
		api.SWhile:   {wants: []int{api.KBool}},
		api.SScope:   {wants: []int{api.KInt}},
		api.STry:     {makes: api.KText},
		api.SUse:     {[]int{api.KInt}, api.KInt},
		api.SHold:    {wants: []int{api.KLock}},
		api.SEach:    {makes: api.KInt},
		api.SProduce: {wants: []int{api.KInt}},
	}
}

func caseRules() map[int]rule {
	return map[int]rule{
		api.CReceive: {[]int{api.KChan}, api.KInt},
		api.CSend:    {wants: []int{api.KChan, api.KInt}},
		api.CAfter:   {wants: []int{api.KInt}},
	}
}

// checker finds the kinds of the variables of a function with all slots.
type checker struct {
	funcs        []api.Func
	fn           api.Func
	vars         []int
	stmts, cases map[int]rule
}

func newChecker(funcs []api.Func, at int) *checker {
	c := &checker{funcs: funcs, fn: funcs[at], vars: make([]int, funcs[at].Vars), stmts: stmtRules(), cases: caseRules()}
	copy(c.vars, kindsOf(c.fn.Params, paramKind))
	return c
}

// function reports whether all statements get what they want. In the order of the text each variable is made before it is used.
func (c *checker) function() bool {
	for s := range shape.Stmts(c.fn.Body) {
		got := exprsKinds(s.Args, c.vars)
		if !c.callFits(s) || !c.obeys(c.stmtRule(s, got), got, s.Name, s.Slot) {
			return false
		}
		for _, k := range s.Cases {
			if !c.obeys(c.cases[k.Op], exprsKinds(k.Args, c.vars), k.Name, k.Slot) {
				return false
			}
		}
	}
	return true
}

// obeys reports whether expressions of the kinds got are what a rule wants, and gives the variable of a name its kind.
func (c *checker) obeys(r rule, got []int, name string, slot int) bool {
	if name != "" {
		c.vars[slot] = r.makes
	}
	// The time of a scope and the value of a return need not be there.
	return slices.EqualFunc(got, r.wants[:len(got)], func(g, w int) bool {
		return g == w || w == anything && g != wrong
	})
}

// stmtRule returns the rule of a statement whose expressions have the kinds got.
func (c *checker) stmtRule(s *api.Stmt, got []int) rule {
	r := c.stmts[s.Op]
	switch s.Op {
	case api.SLet:
		r.makes = got[0]
	case api.SSet:
		kind := c.vars[s.Slot]
		r = rule{[]int{kind}, kind}
	case api.SReturn:
		r.wants = []int{c.fn.Result}
	case api.SCall:
		r.makes = c.funcs[s.Index].Result
	}
	if s.Fn != "" {
		r.wants = kindsOf(c.funcs[s.Index].Params, paramKind)
	}
	return r
}

// callFits reports whether the result of the function that a statement calls, if any, is one that it can take.
func (c *checker) callFits(s *api.Stmt) bool {
	result := c.funcs[s.Index].Result
	switch s.Op {
	case api.SSpawn:
		return result == api.KInt || result == api.KUnit
	case api.SCall:
		return result != api.KUnit || s.Name == ""
	}
	return true
}
