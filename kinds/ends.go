package kinds

import (
	"slices"

	"seedbed/api"
	"seedbed/shape"
)

// ends reports whether a block ends.
func ends(block []api.Stmt) bool { return slices.ContainsFunc(block, stmtEnds) }

func stmtEnds(s api.Stmt) bool {
	switch s.Op {
	case api.SReturn, api.SThrow, api.SBreak, api.SContinue:
		return true
	case api.SIf:
		return ends(s.Body) && ends(s.Other)
	case api.SWhile:
		return isTrue(s.Args[0]) && !breaks(s.Body)
	case api.SShield, api.SUse, api.SHold:
		return ends(s.Body)
	case api.STry:
		caught := s.Flag&shape.HasCatch != 0
		return ends(s.Last) || ends(s.Body) && (!caught || ends(s.Other))
	case api.SSelect:
		return !slices.ContainsFunc(s.Cases, func(k api.Case) bool { return !ends(k.Body) })
	}
	return false
}

func isTrue(e api.Expr) bool { return e.Op == api.EBool && e.N == 1 }

// breaks reports whether a break that stands somewhere in the body of a loop belongs to this loop.
func breaks(body []api.Stmt) bool {
	var inBlock func(block []api.Stmt) bool
	inStmt := func(s api.Stmt) bool {
		switch s.Op {
		case api.SBreak:
			return true
		case api.SReceive:
			return s.Flag == 1
		case api.SWhile, api.SEach:
			return false // what breaks in it belongs to it
		}
		return inBlock(s.Body) || inBlock(s.Other) || inBlock(s.Last) ||
			slices.ContainsFunc(s.Cases, func(k api.Case) bool { return inBlock(k.Body) })
	}
	inBlock = func(block []api.Stmt) bool { return slices.ContainsFunc(block, inStmt) }
	return inBlock(body)
}
