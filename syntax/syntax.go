// Package syntax is layer 2: it reads programs. See shared/doc/02-syntax.md.
package syntax

import (
	"slices"

	"seedbed/api"
	"seedbed/shape"
)

// Parse returns the program of a source; if there is an error, its position.
func Parse(source string) (api.Program, int, api.Errno) {
	p, at, err := read(source, (*parser).program)
	if err != api.OK {
		return api.Program{}, at, err
	}
	if Check(p) != api.OK {
		return api.Program{}, 0, api.ErrFull
	}
	return p, 0, api.OK
}

// ParseExpr returns the expression of a source; if there is an error, its position.
func ParseExpr(source string) (api.Expr, int, api.Errno) {
	e, at, err := read(source, (*parser).expression)
	if err != api.OK {
		return api.Expr{}, at, err
	}
	if shape.Expr(e) != api.OK {
		return api.Expr{}, 0, api.ErrFull
	}
	return e, 0, api.OK
}

// Check returns OK if a program is well formed.
func Check(p api.Program) api.Errno {
	_, _, err := shape.Program(p)
	return err
}

// Nodes returns the number of nodes of a well formed program.
func Nodes(p api.Program) (int, api.Errno) {
	nodes, _, err := shape.Program(p)
	return nodes, err
}

// Depth returns the greatest depth of a well formed program.
func Depth(p api.Program) (int, api.Errno) {
	_, depth, err := shape.Program(p)
	return depth, err
}

// Same reports whether two programs are equal in all fields.
func Same(p, q api.Program) bool {
	return slices.EqualFunc(p.Funcs, q.Funcs, sameFunc)
}

// Clone returns a program that is equal to a well formed one and shares no memory with it.
func Clone(p api.Program) (api.Program, api.Errno) {
	if err := Check(p); err != api.OK {
		return api.Program{}, err
	}
	return shape.Clone(p), api.OK
}
