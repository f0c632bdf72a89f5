package world

import (
	"seedbed/api"
	"seedbed/shape"
)

// deal lets tasks go on whom a board gives deals.
func (w *World) deal(deals []api.Deal) {
	for _, d := range deals {
		t := w.task(d.Who)
		// It does not wait any more if it was cancelled since the board gave the deal.
		if t.phase == api.QWaits {
			w.goOn(t, replyOf(t.ask, d))
		}
	}
}

// follow does what follows of effects.
func (w *World) follow(effects []api.Effect) {
	for _, e := range effects {
		switch e.Kind {
		case api.ECancel:
			w.cancel(w.task(e.N))
		case api.ELeft:
			w.left(w.task(e.N), e.M, e.Fault)
		}
	}
}

// cancel tells a task that it is cancelled.
func (w *World) cancel(t *task) {
	if t.phase == api.QEnded {
		return
	}
	w.note(api.Event{Task: t.number, Kind: api.VCancel})
	if t.phase == api.QWaits {
		w.withdraw(t)
		w.goOn(t, api.Answer{Fault: cancelled()})
	}
}

// left lets a task go on whose scope is over.
func (w *World) left(t *task, scope int, f api.Fault) {
	w.until[scope-1] = -1
	w.note(api.Event{Task: t.number, Kind: api.VLeft, N: scope, Fault: f})
	if !t.done {
		w.goOn(t, api.Answer{Fault: f})
		return
	}
	w.noteGo(t, api.Answer{Fault: f})
	if (t.fault == api.Fault{} && f != api.Fault{}) {
		t.v, t.fault = api.Value{}, f
	}
	w.close(t)
}

// finish takes what the coroutine of a task is done with.
func (w *World) finish(t *task, v api.Value, f api.Fault) {
	t.done, t.fault = true, f
	if shape.Valid(v) {
		t.v = v
	}
	w.close(t)
}

// close lets a task that is done leave what it has opened, and ends it. The rest of what it has opened outside of a scope is left when that is over.
func (w *World) close(t *task) {
	for {
		l, ok := w.innermost(t)
		switch {
		case !ok:
			w.end(t)
			return
		case l.Kind == api.LScope:
			w.leave(t, api.Ask{Kind: api.ALeave, Fault: t.fault})
			return
		}
		w.unveil(t, api.Ask{})
	}
}

// end ends a task that has nothing open.
func (w *World) end(t *task) {
	leaks, _ := w.ledger.End(t.number)
	for _, what := range leaks {
		w.note(api.Event{Task: t.number, Kind: api.VLeak, N: what})
	}
	w.note(api.Event{Task: t.number, Kind: api.VEnd, V: t.v, Fault: t.fault})
	t.phase = api.QEnded
	effects, _ := w.grove.End(t.number, t.fault)
	w.follow(effects)
	// Those who were cancelled by this wait no more.
	for _, n := range t.waiting {
		w.goOn(w.task(n), t.ending())
	}
	if t.service > 0 {
		orders, _ := w.warden.Ended(t.service, t.fault, w.Now())
		w.obey(orders)
	}
}

// stop strikes a task, if it runs.
func (w *World) stop(n int) {
	// A task that does not run is the only error.
	effects, _ := w.grove.Strike(n)
	w.follow(effects)
}

// obey carries out what the warden orders.
func (w *World) obey(orders []api.Order) {
	for _, o := range orders {
		if o.Kind == api.OStart && !w.isDue(o.N) {
			continue
		}
		w.note(api.Event{Kind: api.VOrder, N: o.N, M: o.Kind})
		switch {
		case o.Kind == api.OStop:
			w.stop(w.served[o.N-1])
		case o.Kind == api.OStart && o.At <= w.Now():
			w.start(o.N)
		}
	}
}

func (w *World) isDue(service int) bool {
	state, _ := w.warden.State(service)
	return state == api.SDue
}

// start starts a service whose time has come.
func (w *World) start(service int) {
	n, err := w.grove.Root()
	w.warden.Started(service, w.Now())
	if err != api.OK {
		orders, _ := w.warden.Ended(service, thrown("full"), w.Now())
		w.obey(orders)
		return
	}
	w.served[service-1] = n
	s := w.spec.Services[service-1]
	w.add(n, s.Fn, s.Args, service)
}
