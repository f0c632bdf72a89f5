package syntax

import (
	"slices"

	"seedbed/api"
)

func sameFunc(f, g api.Func) bool {
	return f.Name == g.Name && f.Result == g.Result && f.Flow == g.Flow && f.Vars == g.Vars &&
		slices.Equal(f.Params, g.Params) && slices.EqualFunc(f.Body, g.Body, sameStmt)
}

func sameStmt(s, t api.Stmt) bool {
	return s.Op == t.Op && s.Name == t.Name && s.Slot == t.Slot && s.Fn == t.Fn &&
		s.Index == t.Index && s.Flag == t.Flag &&
		slices.EqualFunc(s.Args, t.Args, sameExpr) &&
		slices.EqualFunc(s.Body, t.Body, sameStmt) &&
		slices.EqualFunc(s.Other, t.Other, sameStmt) &&
		slices.EqualFunc(s.Last, t.Last, sameStmt) &&
		slices.EqualFunc(s.Cases, t.Cases, sameCase)
}

func sameCase(c, d api.Case) bool {
	return c.Op == d.Op && c.Name == d.Name && c.Slot == d.Slot &&
		slices.EqualFunc(c.Args, d.Args, sameExpr) &&
		slices.EqualFunc(c.Body, d.Body, sameStmt)
}

func sameExpr(e, f api.Expr) bool {
	return e.Op == f.Op && e.N == f.N && e.S == f.S && e.Slot == f.Slot &&
		slices.EqualFunc(e.Args, f.Args, sameExpr)
}
