package names

import (
	"slices"

	"seedbed/api"
	"seedbed/shape"
)

// resolver finds the variables of a function.
type resolver struct {
	funcs  []api.Func
	fn     *api.Func
	vars   []string         // the names of the variables, by their slots
	blocks []map[string]int // the slots of what was made in each block around, from the outermost on
	loops  int              // how many loops are around
}

// failure is the panic by which a resolver ends at an error.
type failure struct {
	err api.Errno
}

func need(holds bool, err api.Errno) {
	if !holds {
		panic(failure{err})
	}
}

// resolve gives a well formed program its slots, and returns the names of the variables of each function.
func resolve(p api.Program) (vars [][]string, err api.Errno) {
	if err := checkHeads(p.Funcs); err != api.OK {
		return nil, err
	}
	defer func() {
		if r := recover(); r != nil {
			vars, err = nil, api.ErrArg
			if f, ok := r.(failure); ok {
				err = f.err
			}
		}
	}()
	for i := range p.Funcs {
		r := &resolver{funcs: p.Funcs, fn: &p.Funcs[i]}
		r.function()
		vars = append(vars, r.vars)
	}
	return vars, api.OK
}

// checkHeads checks the names of the functions, and main.
func checkHeads(list []api.Func) api.Errno {
	err := api.ErrName
heads:
	for i, f := range list {
		for _, g := range list[:i] {
			if f.Name == g.Name {
				err = api.ErrTwice // whatever is wrong with main
				break heads
			}
		}
		if f.Name == "main" {
			err = checkMain(f)
		}
	}
	return err
}

func checkMain(f api.Func) api.Errno {
	switch {
	case f.Flow:
		return api.ErrFlow
	case len(f.Params) > 0:
		return api.ErrCount
	}
	return api.OK
}

// indexOf returns the position of the function with a name, -1 if there is none.
func indexOf(list []api.Func, name string) int {
	return slices.IndexFunc(list, func(f api.Func) bool { return f.Name == name })
}

func (r *resolver) function() {
	r.inBlock(func() {
		for _, q := range r.fn.Params {
			r.add(q.Name)
		}
		// No variable can have the name of a parameter, so that both can be in one block.
		r.stmts(r.fn.Body)
	})
	need(len(r.vars) <= api.MaxVars, api.ErrFull)
	r.fn.Vars = len(r.vars)
}

// inBlock does what is to be done in a block: what is made there is seen only there.
func (r *resolver) inBlock(do func()) {
	r.blocks = append(r.blocks, map[string]int{})
	do()
	r.blocks = r.blocks[:len(r.blocks)-1]
}

// inLoop does what is to be done in a loop.
func (r *resolver) inLoop(do func()) {
	r.loops++
	do()
	r.loops--
}

// find returns the slot of the variable of a name that is seen.
func (r *resolver) find(name string) (int, bool) {
	for _, block := range slices.Backward(r.blocks) {
		if slot, ok := block[name]; ok {
			return slot, true
		}
	}
	return 0, false
}

// seen returns the slot of a variable that should be seen.
func (r *resolver) seen(name string) int {
	slot, ok := r.find(name)
	need(ok, api.ErrName)
	return slot
}

// add makes a variable in the innermost block.
func (r *resolver) add(name string) int {
	_, ok := r.find(name)
	need(!ok, api.ErrTwice)
	slot := len(r.vars)
	r.vars = append(r.vars, name)
	r.blocks[len(r.blocks)-1][name] = slot
	return slot
}

func (r *resolver) exprs(list []api.Expr) {
	for i := range list {
		e := &list[i]
		if e.Op == api.EName {
			e.Slot = r.seen(e.S)
		}
		r.exprs(e.Args)
	}
}

func (r *resolver) block(list []api.Stmt) {
	r.inBlock(func() { r.stmts(list) })
}

// blockWith resolves a block with a variable of its own, and returns the slot of that.
func (r *resolver) blockWith(name string, list []api.Stmt) int {
	slot := 0
	r.inBlock(func() {
		slot = r.add(name)
		r.stmts(list)
	})
	return slot
}

func (r *resolver) stmts(list []api.Stmt) {
	for i := range list {
		r.stmt(&list[i])
	}
}

func (r *resolver) stmt(s *api.Stmt) {
	r.exprs(s.Args)
	if s.Fn != "" {
		r.call(s)
	}
	switch s.Op {
	case api.SSet:
		s.Slot = r.seen(s.Name)
	case api.SIf:
		r.block(s.Body)
		r.block(s.Other)
	case api.SWhile:
		r.inLoop(func() { r.block(s.Body) })
	case api.SEach:
		r.inLoop(func() { s.Slot = r.blockWith(s.Name, s.Body) })
	case api.SUse:
		s.Slot = r.blockWith(s.Name, s.Body)
	case api.SScope, api.SShield, api.SHold:
		r.block(s.Body)
	case api.STry:
		r.attempt(s)
	case api.SSelect:
		r.cases(s.Cases)
	default:
		r.line(s)
	}
}

// line resolves the rest of a statement that makes a variable in its own block, or none, and contains no blocks.
func (r *resolver) line(s *api.Stmt) {
	if s.Name != "" {
		s.Slot = r.add(s.Name)
	}
	switch s.Op {
	case api.SBreak, api.SContinue:
		need(r.loops > 0, api.ErrPlace)
	case api.SReceive:
		need(r.loops > 0 || s.Flag == 0, api.ErrPlace)
	case api.SProduce:
		need(r.fn.Flow, api.ErrPlace)
	case api.SReturn:
		need((len(s.Args) > 0) == (r.fn.Result != api.KUnit), api.ErrPlace)
	}
}

// call resolves the function that a statement calls.
func (r *resolver) call(s *api.Stmt) {
	at := indexOf(r.funcs, s.Fn)
	need(at >= 0, api.ErrName)
	f := r.funcs[at]
	need(f.Flow == (s.Op == api.SEach), api.ErrFlow)
	need(len(f.Params) == len(s.Args), api.ErrCount)
	s.Index = at
}

func (r *resolver) attempt(s *api.Stmt) {
	r.block(s.Body)
	if s.Flag&shape.HasCatch != 0 {
		s.Slot = r.blockWith(s.Name, s.Other)
	}
	r.block(s.Last)
}

func (r *resolver) cases(list []api.Case) {
	for i := range list {
		k := &list[i]
		r.exprs(k.Args)
		if k.Op == api.CReceive {
			k.Slot = r.blockWith(k.Name, k.Body)
		} else {
			r.block(k.Body)
		}
	}
}
