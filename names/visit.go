package names

import (
	"iter"

	"seedbed/api"
	"seedbed/shape"
)

// mentions visits the name of each variable of a function, wherever it stands.
func mentions(f *api.Func) iter.Seq[*string] {
	return func(yield func(*string) bool) {
		for i := range f.Params {
			if !yield(&f.Params[i].Name) {
				return
			}
		}
		for s := range shape.Stmts(f.Body) {
			if !mentionsOf(s, yield) {
				return
			}
		}
	}
}

// mentionsOf visits those of a statement, without those of the statements in it; it reports whether the visit goes on.
func mentionsOf(s *api.Stmt, yield func(*string) bool) bool {
	if s.Name != "" && !yield(&s.Name) {
		return false
	}
	for i := range s.Cases {
		k := &s.Cases[i]
		if k.Name != "" && !yield(&k.Name) {
			return false
		}
	}
	for e := range shape.Exprs(s) {
		if e.Op == api.EName && !yield(&e.S) {
			return false
		}
	}
	return true
}
