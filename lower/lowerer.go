package lower

import (
	"iter"
	"strconv"

	"seedbed/api"
	"seedbed/shape"
)

// functions visits the functions of a program.
func functions(p api.Program) iter.Seq[*api.Func] {
	return func(yield func(*api.Func) bool) {
		for i := range p.Funcs {
			if !yield(&p.Funcs[i]) {
				return
			}
		}
	}
}

// lowerer lowers a function in its place.
type lowerer struct {
	fn        *api.Func
	taken     map[string]bool                 // the names of its variables, and those that were found free
	replacers map[int]func(api.Stmt) api.Stmt // of the statements that need not remain what they are, by their operators
	outlet    string                          // of a flow
}

func newLowerer(f *api.Func) *lowerer {
	l := &lowerer{fn: f, taken: variables(f)}
	l.replacers = map[int]func(api.Stmt) api.Stmt{api.SEach: l.each, api.SProduce: l.produce, api.STry: l.try}
	return l
}

// variables returns the names of the variables of a function.
func variables(f *api.Func) map[string]bool {
	names := map[string]bool{}
	for _, q := range f.Params {
		names[q.Name] = true
	}
	for s := range shape.Stmts(f.Body) {
		names[s.Name] = true
		for _, k := range s.Cases {
			names[k.Name] = true
		}
	}
	return names
}

// free takes the first one of the names base followed by 0, 1, 2, ... that is not taken.
func (l *lowerer) free(base string) string {
	n := 0
	for l.taken[base+strconv.Itoa(n)] {
		n++
	}
	name := base + strconv.Itoa(n)
	l.taken[name] = true
	return name
}

func (l *lowerer) function() {
	if !l.fn.Flow {
		l.block(l.fn.Body)
		return
	}
	l.outlet = l.free("out")
	l.block(l.fn.Body)
	l.fn.Flow = false
	l.fn.Params = append(l.fn.Params, api.Param{Name: l.outlet, Kind: api.KChan})
	l.fn.Body = []api.Stmt{finally(l.fn.Body, api.Stmt{Op: api.SClose, Args: variable(l.outlet)})}
}

// replace puts what by makes of each element of a list in its place.
func replace[T any](list []T, by func(T) T) {
	for i, x := range list {
		list[i] = by(x)
	}
}

func (l *lowerer) block(list []api.Stmt) { replace(list, l.stmt) }

// stmt lowers a statement. The names in it are taken in the order of the text.
func (l *lowerer) stmt(s api.Stmt) api.Stmt {
	if replacer, ok := l.replacers[s.Op]; ok {
		return replacer(s)
	}
	l.inside(s)
	return s
}

// inside lowers the blocks of a statement.
func (l *lowerer) inside(s api.Stmt) {
	l.block(s.Body)
	l.block(s.Other)
	l.block(s.Last)
	replace(s.Cases, func(k api.Case) api.Case {
		l.block(k.Body)
		return k
	})
}

func (l *lowerer) produce(s api.Stmt) api.Stmt {
	return api.Stmt{Op: api.SSend, Args: append(variable(l.outlet), s.Args...)}
}

func (l *lowerer) try(s api.Stmt) api.Stmt {
	l.inside(s)
	if !isHigh(&s) {
		return s
	}
	caught := api.Stmt{Op: api.STry, Flag: shape.HasCatch, Name: s.Name, Body: s.Body, Other: s.Other}
	return finally([]api.Stmt{caught}, s.Last...)
}

func (l *lowerer) each(s api.Stmt) api.Stmt {
	channel := l.free("c")
	task := l.free("t")
	l.inside(s) // each in it takes its names after these
	received := api.Stmt{Op: api.SReceive, Name: s.Name, Flag: 1, Args: variable(channel)}
	rounds := api.Stmt{Op: api.SWhile, Args: []api.Expr{{Op: api.EBool, N: 1}}, Body: append([]api.Stmt{received}, s.Body...)}
	return api.Stmt{Op: api.SScope, Body: []api.Stmt{
		{Op: api.SChan, Name: channel, Flag: s.Flag % 4, Args: []api.Expr{{Op: api.EInt, N: s.Flag / 4}}},
		{Op: api.SSpawn, Name: task, Fn: s.Fn, Args: append(s.Args, variable(channel)...)},
		finally([]api.Stmt{rounds}, api.Stmt{Op: api.SCancel, Args: variable(task)}),
	}}
}

// finally is a try that ends with statements.
func finally(body []api.Stmt, last ...api.Stmt) api.Stmt {
	return api.Stmt{Op: api.STry, Flag: shape.HasFinally, Body: body, Last: last}
}

// variable is the expression of a variable, alone in a list.
func variable(name string) []api.Expr {
	return []api.Expr{{Op: api.EName, S: name}}
}
