package shape

import (
	"seedbed/api"
	"seedbed/lexis"
)

// Whether something has a name.
const (
	nameless = 0
	nameable = 1
	named    = 2
)

// shape is what a statement has: a name, a function, from least to most expressions, a flag up to flags, a body.
type shape struct {
	name, fn    int
	least, most int
	flags       int
	body        bool
}

// shapes holds the shape of each statement by its operator; what a shape does not say is checked in stmtFits.
var shapes = [api.SProduce + 1]shape{
	api.SLet:      {name: named, least: 1, most: 1},
	api.SSet:      {name: named, least: 1, most: 1},
	api.SCall:     {name: nameable, fn: named, most: api.MaxNodes},
	api.SSpawn:    {name: nameable, fn: named, most: api.MaxNodes},
	api.SAwait:    {name: nameable, least: 1, most: 1},
	api.SReceive:  {name: nameable, least: 1, most: 1, flags: 1},
	api.SChan:     {name: named, least: 1, most: 1, flags: api.PNewest},
	api.SLock:     {name: named, least: 1, most: 1},
	api.SNow:      {name: named},
	api.SSend:     {least: 2, most: 2},
	api.SClose:    {least: 1, most: 1},
	api.SSleep:    {least: 1, most: 1},
	api.SYield:    {},
	api.SEmit:     {least: 1, most: 1},
	api.SThrow:    {least: 1, most: 1},
	api.SCancel:   {least: 1, most: 1},
	api.SReturn:   {most: 1},
	api.SBreak:    {},
	api.SContinue: {},
	api.SIf:       {least: 1, most: 1, flags: 1, body: true},
	api.SWhile:    {least: 1, most: 1, body: true},
	api.SScope:    {most: 1, flags: 1, body: true},
	api.SShield:   {body: true},
	api.STry:      {name: nameable, flags: HasCatch | HasFinally, body: true},
	api.SUse:      {name: named, least: 1, most: 1, body: true},
	api.SHold:     {least: 1, most: 1, body: true},
	api.SSelect:   {},
	api.SEach:     {name: named, fn: named, most: api.MaxNodes, flags: 4*MaxBuffer + api.PNewest, body: true},
	api.SProduce:  {least: 1, most: 1},
}

// misfit is the panic by which a census ends at what is not well formed.
type misfit struct{}

// census counts nodes, and finds the greatest depth; slots says whether there can be slots.
type census struct {
	nodes, deepest int
	slots          bool
}

// look lets a census visit something. ErrArg: that is not well formed.
func (c census) look(visit func(*census)) (nodes, deepest int, err api.Errno) {
	defer func() {
		if recover() != nil {
			nodes, deepest, err = 0, 0, api.ErrArg
		}
	}()
	visit(&c)
	return c.nodes, c.deepest, api.OK
}

func need(fits bool) {
	if !fits {
		panic(misfit{})
	}
}

// count adds nodes of one depth. It is called before they are visited, so that no visit is longer or deeper than the limits.
func (c *census) count(depth int, numbers ...int) {
	for _, n := range numbers {
		c.nodes += n
		if n > 0 {
			c.deepest = max(c.deepest, depth)
		}
	}
	need(c.nodes <= api.MaxNodes && c.deepest <= api.MaxDepth)
}

func (c *census) program(p api.Program) {
	need(len(p.Funcs) > 0 && len(p.Funcs) <= api.MaxFuncs)
	c.count(0, len(p.Funcs))
	for _, f := range p.Funcs {
		need(lexis.IsName(f.Name))
		c.bare(f.Vars)
		need(f.Result == api.KUnit || isKind(f.Result) && !f.Flow)
		need(len(f.Params) <= api.MaxParams)
		for _, q := range f.Params {
			need(lexis.IsName(q.Name) && isKind(q.Kind))
		}
		c.count(1, len(f.Body))
		c.stmts(1, f.Body)
	}
}

// bare checks that there are no slots where there can be none.
func (c *census) bare(slots ...int) {
	for _, n := range slots {
		need(c.slots || n == 0)
	}
}

// isKind reports whether a kind can be written.
func isKind(kind int) bool { return kind >= api.KInt && kind <= api.KLock }

// stmts visits statements of a depth, which have been counted.
func (c *census) stmts(depth int, list []api.Stmt) {
	for _, s := range list {
		need(stmtFits(s))
		c.bare(s.Slot, s.Index)
		c.count(depth+1, len(s.Args), len(s.Body), len(s.Other), len(s.Last), len(s.Cases))
		c.exprs(depth+1, s.Args)
		c.stmts(depth+1, s.Body)
		c.stmts(depth+1, s.Other)
		c.stmts(depth+1, s.Last)
		for i, k := range s.Cases {
			need(caseFits(k, i == len(s.Cases)-1))
			c.bare(k.Slot)
			c.count(depth+2, len(k.Args), len(k.Body))
			c.exprs(depth+2, k.Args)
			c.stmts(depth+2, k.Body)
		}
	}
}

// exprs visits expressions of a depth, which have been counted.
func (c *census) exprs(depth int, list []api.Expr) {
	for _, e := range list {
		need(exprFits(e))
		c.bare(e.Slot)
		c.count(depth+1, len(e.Args))
		c.exprs(depth+1, e.Args)
	}
}

// lone visits an expression that stands alone.
func (c *census) lone(e api.Expr) {
	c.count(1, 1)
	c.exprs(1, []api.Expr{e})
}

// stmtFits reports whether a statement has what it should have, but for what is in its parts.
func stmtFits(s api.Stmt) bool {
	if s.Op < api.SLet || s.Op > api.SProduce {
		return false
	}
	f := shapes[s.Op]
	return nameFits(s.Name, f.name) && nameFits(s.Fn, f.fn) &&
		len(s.Args) >= f.least && len(s.Args) <= f.most &&
		flagFits(s, f.flags) && partsFit(s, f.body)
}

func nameFits(name string, want int) bool {
	if name == "" {
		return want != named
	}
	return want != nameless && lexis.IsName(name)
}

func flagFits(s api.Stmt, most int) bool {
	if s.Flag < 0 || s.Flag > most {
		return false
	}
	switch s.Op {
	case api.SReceive:
		return s.Flag == 0 || s.Name != ""
	case api.STry:
		return s.Flag != 0 && (s.Flag&HasCatch != 0) == (s.Name != "")
	case api.SEach:
		return s.Flag%4 <= api.PNewest
	}
	return true
}

// partsFit reports whether a statement has statements and cases only where it can.
func partsFit(s api.Stmt, body bool) bool {
	other := s.Op == api.SIf && s.Flag == 1 || s.Op == api.STry && s.Flag&HasCatch != 0
	last := s.Op == api.STry && s.Flag&HasFinally != 0
	if s.Op == api.SSelect && (len(s.Cases) == 0 || len(s.Cases) > api.MaxCases) {
		return false
	}
	return (body || len(s.Body) == 0) && (other || len(s.Other) == 0) && (last || len(s.Last) == 0) &&
		(s.Op == api.SSelect || len(s.Cases) == 0)
}

func caseFits(k api.Case, last bool) bool {
	switch k.Op {
	case api.CReceive:
		return lexis.IsName(k.Name) && len(k.Args) == 1
	case api.CSend:
		return k.Name == "" && len(k.Args) == 2
	case api.CAfter:
		return k.Name == "" && len(k.Args) == 1
	case api.CElse:
		return k.Name == "" && len(k.Args) == 0 && last
	}
	return false
}

func exprFits(e api.Expr) bool {
	if e.Op != api.EInt && e.Op != api.EBool && e.N != 0 || e.Op != api.EText && e.Op != api.EName && e.S != "" {
		return false
	}
	switch e.Op {
	case api.EInt:
		return e.N >= 0 && e.N <= api.MaxInt && len(e.Args) == 0
	case api.EBool:
		return (e.N == 0 || e.N == 1) && len(e.Args) == 0
	case api.EText:
		return IsText(e.S) && len(e.Args) == 0
	case api.EName:
		return lexis.IsName(e.S) && len(e.Args) == 0
	case api.ENot, api.ENeg:
		return len(e.Args) == 1
	}
	return e.Op >= api.EOr && e.Op <= api.ERem && len(e.Args) == 2
}
