package direct

import (
	"seedbed/api"
	"seedbed/eval"
)

// frame is a call of a function, with the values of its variables.
type frame struct {
	*coroutine
	vars []api.Value
}

func (f frame) list(stmts []api.Stmt) ending {
	for i := range stmts {
		end := f.stmt(&stmts[i])
		if _, ok := end.(plain); !ok {
			return end
		}
	}
	return plain{}
}

func (f frame) stmt(s *api.Stmt) ending {
	f.step()
	switch s.Op {
	case api.SWhile:
		return f.while(s)
	case api.SEach:
		return f.each(s)
	}
	v, fault := f.values(s.Args)
	if fault != noFault {
		return raised{fault}
	}
	if a, ok := f.soleAsk(s, v); ok {
		return f.askOnce(s, a)
	}
	switch s.Op {
	case api.SLet, api.SSet:
		f.vars[s.Slot] = v[0]
		return plain{}
	case api.SCall:
		return f.calling(s, v)
	case api.SThrow:
		return thrown(v[0].S)
	case api.SReturn:
		return returned{append(v, api.Value{})[0]}
	case api.SBreak:
		return broken{}
	case api.SContinue:
		return continued{}
	}
	return f.block(s, v)
}

// values evaluates expressions from left to right, until one has a fault.
func (f frame) values(list []api.Expr) ([]api.Value, api.Fault) {
	var values []api.Value
	for _, e := range list {
		// Eval takes all expressions of a sound program.
		v, fault, _ := eval.Eval(e, f.vars)
		if fault != noFault {
			return nil, fault
		}
		values = append(values, v)
	}
	return values, noFault
}

// soleAsk returns what a statement asks for that has no blocks, for the values of its expressions; false: nothing.
func (f frame) soleAsk(s *api.Stmt, v []api.Value) (api.Ask, bool) {
	switch s.Op {
	case api.SSpawn:
		return api.Ask{Kind: api.ASpawn, Fn: s.Index, Args: v}, true
	case api.SAwait:
		return api.Ask{Kind: api.AAwait, V: v[0]}, true
	case api.SReceive:
		return api.Ask{Kind: api.AReceive, V: v[0]}, true
	case api.SChan:
		return api.Ask{Kind: api.AChan, N: v[0].N, M: s.Flag}, true
	case api.SLock:
		return api.Ask{Kind: api.ALock, N: v[0].N}, true
	case api.SNow:
		return api.Ask{Kind: api.ANow}, true
	case api.SSend:
		return api.Ask{Kind: api.ASend, V: v[0], W: v[1]}, true
	case api.SProduce:
		return api.Ask{Kind: api.ASend, V: f.outlet, W: v[0]}, true
	case api.SClose:
		return api.Ask{Kind: api.AClose, V: v[0]}, true
	case api.SSleep:
		return api.Ask{Kind: api.ASleep, N: v[0].N}, true
	case api.SYield:
		return api.Ask{Kind: api.AYield}, true
	case api.SEmit:
		return api.Ask{Kind: api.AEmit, V: v[0]}, true
	case api.SCancel:
		return api.Ask{Kind: api.ACancel, V: v[0]}, true
	}
	return api.Ask{}, false
}

// askOnce executes a statement that asks once.
func (f frame) askOnce(s *api.Stmt, a api.Ask) ending {
	r := f.ask(a)
	switch {
	case s.Op == api.SReceive && s.Flag == 1 && isClosed(r):
		return broken{}
	case r.Fault == noFault && s.Name != "":
		f.vars[s.Slot] = r.V
	}
	return after(r, plain{})
}

// isClosed reports whether a reply says that a channel is closed.
func isClosed(r api.Answer) bool {
	return r.Fault == api.Fault{Kind: api.FThrow, Text: "closed"}
}

// calling executes a statement that calls a function.
func (f frame) calling(s *api.Stmt, v []api.Value) ending {
	if !f.calls(+1) {
		return thrown("deep")
	}
	f.step()
	end := f.call(s.Index, v)
	f.calls(-1)
	switch e := end.(type) {
	case returned:
		if s.Name != "" {
			f.vars[s.Slot] = e.v
		}
		return plain{}
	default:
		return e
	}
}
