package direct

import (
	"seedbed/api"
	"seedbed/shape"
)

// block executes a statement with blocks whose expressions are evaluated once.
func (f frame) block(s *api.Stmt, v []api.Value) ending {
	switch s.Op {
	case api.SIf:
		if isTrue(v[0]) {
			return f.list(s.Body)
		}
		return f.list(s.Other)
	case api.STry:
		return f.try(s)
	case api.SSelect:
		return f.choose(s)
	case api.SScope:
		within := -1
		if len(v) > 0 {
			within = v[0].N
		}
		return f.scope(api.Ask{Kind: api.AOpen, N: s.Flag, M: within}, func() ending { return f.list(s.Body) })
	case api.SUse:
		f.vars[s.Slot] = v[0]
		return f.between(api.Ask{Kind: api.AAcquire, N: v[0].N}, s, api.Ask{Kind: api.ARelease, N: v[0].N})
	case api.SHold:
		return f.between(api.Ask{Kind: api.AHold, V: v[0]}, s, api.Ask{Kind: api.AFree, V: v[0]})
	}
	return f.between(api.Ask{Kind: api.AShield}, s, api.Ask{Kind: api.AUnveil})
}

func isTrue(v api.Value) bool { return v.N == 1 }

// scope executes a body in a scope.
func (f frame) scope(open api.Ask, body func() ending) ending {
	if r := f.ask(open); r.Fault != noFault {
		return raised{r.Fault}
	}
	end := body()
	fault := faultOf(end)
	if fault != noFault {
		end = plain{} // the scope has the fault now, and the reply says whether it ends with one
	}
	return after(f.ask(api.Ask{Kind: api.ALeave, Fault: fault}), end)
}

// between executes the body of a statement between two asks.
func (f frame) between(open api.Ask, s *api.Stmt, shut api.Ask) ending {
	if r := f.ask(open); r.Fault != noFault {
		return raised{r.Fault}
	}
	end := f.list(s.Body)
	r := f.ask(shut)
	if _, ok := end.(raised); ok {
		return end
	}
	return after(r, end)
}

func (f frame) try(s *api.Stmt) ending {
	end := f.list(s.Body)
	if fault := faultOf(end); fault.Kind == api.FThrow && s.Flag&shape.HasCatch != 0 {
		f.vars[s.Slot] = api.Value{Kind: api.KText, S: fault.Text}
		end = f.list(s.Other)
	}
	last := f.list(s.Last)
	if _, ok := last.(plain); !ok {
		return last
	}
	return end
}

func (f frame) choose(s *api.Stmt) ending {
	a := api.Ask{Kind: api.ASelect}
	for _, k := range s.Cases {
		if k.Op == api.CElse {
			a.N = 1
			break
		}
		v, fault := f.values(k.Args)
		if fault != noFault {
			return raised{fault}
		}
		a.Arms = append(a.Arms, armOf(k.Op, v))
	}
	r := f.ask(a)
	if r.Fault != noFault {
		return raised{r.Fault}
	}
	k := s.Cases[r.Index]
	if k.Op == api.CReceive {
		f.vars[k.Slot] = r.V
	}
	return f.list(k.Body)
}

// armOf returns the arm of a case with the values of its expressions.
func armOf(op int, v []api.Value) api.Arm {
	switch op {
	case api.CReceive:
		return api.Arm{Op: op, V: v[0]}
	case api.CSend:
		return api.Arm{Op: op, V: v[0], W: v[1]}
	}
	return api.Arm{Op: op, N: v[0].N}
}
