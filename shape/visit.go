package shape

import (
	"iter"

	"seedbed/api"
)

// Stmts visits statements and all those in them, in the order of the text.
func Stmts(list []api.Stmt) iter.Seq[*api.Stmt] {
	return func(yield func(*api.Stmt) bool) { visitStmts(list, yield) }
}

// visitStmts reports whether the visit goes on.
func visitStmts(list []api.Stmt, yield func(*api.Stmt) bool) bool {
	for i := range list {
		s := &list[i]
		if !yield(s) || !visitStmts(s.Body, yield) || !visitStmts(s.Other, yield) || !visitStmts(s.Last, yield) {
			return false
		}
		for _, k := range s.Cases {
			if !visitStmts(k.Body, yield) {
				return false
			}
		}
	}
	return true
}

// Exprs visits the expressions of a statement and its cases and all those in them, but not those of the statements in it.
func Exprs(s *api.Stmt) iter.Seq[*api.Expr] {
	return func(yield func(*api.Expr) bool) {
		if !visitExprs(s.Args, yield) {
			return
		}
		for _, k := range s.Cases {
			if !visitExprs(k.Args, yield) {
				return
			}
		}
	}
}

// visitExprs reports whether the visit goes on.
func visitExprs(list []api.Expr, yield func(*api.Expr) bool) bool {
	for i := range list {
		e := &list[i]
		if !yield(e) || !visitExprs(e.Args, yield) {
			return false
		}
	}
	return true
}
