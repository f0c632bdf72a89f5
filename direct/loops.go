package direct

import "seedbed/api"

func (f frame) while(s *api.Stmt) ending {
	for {
		f.step()
		v, fault := f.values(s.Args)
		if fault != noFault {
			return raised{fault}
		}
		if !isTrue(v[0]) {
			return plain{}
		}
		if goesOn, end := round(f.list(s.Body)); !goesOn {
			return end
		}
	}
}

func (f frame) each(s *api.Stmt) ending {
	return f.scope(api.Ask{Kind: api.AOpen, M: -1}, func() ending { return f.stream(s) })
}

// stream is the block of the scope of an each.
func (f frame) stream(s *api.Stmt) ending {
	channel := f.ask(api.Ask{Kind: api.AChan, N: s.Flag / 4, M: s.Flag % 4})
	if channel.Fault != noFault {
		return raised{channel.Fault}
	}
	v, fault := f.values(s.Args)
	if fault != noFault {
		return raised{fault}
	}
	task := f.ask(api.Ask{Kind: api.ASpawn, Fn: s.Index, Args: append(v, channel.V)})
	if task.Fault != noFault {
		return raised{task.Fault}
	}
	end := f.rounds(s, channel.V)
	return after(f.ask(api.Ask{Kind: api.ACancel, V: task.V}), end)
}

// rounds executes the body of an each for what comes from a channel, until that is closed.
func (f frame) rounds(s *api.Stmt, channel api.Value) ending {
	for {
		r := f.ask(api.Ask{Kind: api.AReceive, V: channel})
		switch {
		case isClosed(r):
			return plain{}
		case r.Fault != noFault:
			return raised{r.Fault}
		}
		f.vars[s.Slot] = r.V
		if goesOn, end := round(f.list(s.Body)); !goesOn {
			return end
		}
	}
}

// round returns whether a loop goes on when its body has ended, and how the loop ends if not.
func round(body ending) (goesOn bool, end ending) {
	switch body.(type) {
	case plain, continued:
		return true, plain{}
	case broken:
		return false, plain{}
	default:
		return false, body
	}
}
