package shape

import (
	"slices"

	"seedbed/api"
)

// Clone returns an equal program that shares no memory with p. It is for programs that have been checked: what contains itself has no end.
func Clone(p api.Program) api.Program {
	return api.Program{Funcs: each(p.Funcs, cloneFunc)}
}

// each returns a new list of what clone makes of the elements of a list.
func each[T any](list []T, clone func(T) T) []T {
	out := slices.Clone(list)
	for i, x := range list {
		out[i] = clone(x)
	}
	return out
}

func cloneFunc(f api.Func) api.Func {
	f.Params = slices.Clone(f.Params)
	f.Body = each(f.Body, cloneStmt)
	return f
}

func cloneStmt(s api.Stmt) api.Stmt {
	s.Args = each(s.Args, cloneExpr)
	s.Body = each(s.Body, cloneStmt)
	s.Other = each(s.Other, cloneStmt)
	s.Last = each(s.Last, cloneStmt)
	s.Cases = each(s.Cases, cloneCase)
	return s
}

func cloneCase(c api.Case) api.Case {
	c.Args = each(c.Args, cloneExpr)
	c.Body = each(c.Body, cloneStmt)
	return c
}

func cloneExpr(e api.Expr) api.Expr {
	e.Args = each(e.Args, cloneExpr)
	return e
}

// Bare returns what Clone does, without slots.
func Bare(p api.Program) api.Program {
	q := Clone(p)
	for i := range q.Funcs {
		strip(&q.Funcs[i])
	}
	return q
}

// strip takes all slots from a function.
func strip(f *api.Func) {
	f.Vars = 0
	for s := range Stmts(f.Body) {
		s.Slot, s.Index = 0, 0
		for i := range s.Cases {
			s.Cases[i].Slot = 0
		}
		for e := range Exprs(s) {
			e.Slot = 0
		}
	}
}
