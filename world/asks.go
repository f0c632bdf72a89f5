package world

import (
	"slices"

	"seedbed/api"
	"seedbed/shape"
)

// deed does what a task asks for, if that is no point. It returns the value of the reply, or the error of a layer.
type deed func(w *World, t *task, ask api.Ask) (api.Value, api.Errno)

// deeds returns what is done with asks that are no points, by their kinds.
func deeds() [api.ARelease + 1]deed {
	return [...]deed{
		api.AEmit:    (*World).emit,
		api.ANow:     (*World).tellTime,
		api.ASpawn:   (*World).spawn,
		api.ACancel:  (*World).strike,
		api.AChan:    (*World).makeChan,
		api.AClose:   (*World).closeChan,
		api.ALock:    (*World).makeLock,
		api.AFree:    (*World).free,
		api.AOpen:    (*World).open,
		api.ALeave:   (*World).leave,
		api.AShield:  (*World).shield,
		api.AUnveil:  (*World).unveil,
		api.AAcquire: (*World).acquire,
		api.ARelease: (*World).release,
	}
}

// serve does what a task asks for. It reports whether the task continues in the same step.
func (w *World) serve(t *task, ask api.Ask) bool {
	if shape.IsPoint(ask) {
		w.point(t, ask)
		return false
	}
	v, err := api.Value{}, api.ErrKind
	if isFit(ask) {
		v, err = deeds()[ask.Kind](w, t, ask)
	}
	if err == api.OK && ask.Kind == api.ALeave {
		return false
	}
	t.answers = append(t.answers, api.Answer{V: v, Fault: refusal(err)})
	return true
}

// isFit reports whether an ask is of some kind, and all its values are of the kinds that they should be.
func isFit(ask api.Ask) bool {
	switch ask.Kind {
	case api.AEmit:
		return shape.Valid(ask.V)
	case api.ASpawn:
		return !slices.ContainsFunc(ask.Args, func(v api.Value) bool { return !shape.Valid(v) })
	case api.AAwait, api.ACancel:
		return ask.V.Kind == api.KTask
	case api.ASend:
		return ask.V.Kind == api.KChan && shape.Valid(ask.W)
	case api.AReceive, api.AClose:
		return ask.V.Kind == api.KChan
	case api.AHold, api.AFree:
		return ask.V.Kind == api.KLock
	case api.ASelect:
		return !slices.ContainsFunc(ask.Arms, func(a api.Arm) bool { return !isArmFit(a) })
	case api.ALeave:
		return shape.ValidFault(ask.Fault)
	}
	return shape.IsAsk(ask)
}

func isArmFit(a api.Arm) bool {
	switch a.Op {
	case api.CReceive:
		return a.V.Kind == api.KChan
	case api.CSend:
		return a.V.Kind == api.KChan && shape.Valid(a.W)
	}
	return true
}

// refusal returns the fault with which an ask is replied to that has an error: ErrKind, if not all its values are fit, or that of a layer.
func refusal(err api.Errno) api.Fault {
	switch err {
	case api.OK:
		return api.Fault{}
	case api.ErrKind:
		return thrown("kind")
	case api.ErrArg:
		return thrown("range")
	case api.ErrFull:
		return thrown("full")
	}
	return thrown("none")
}

func (w *World) emit(t *task, ask api.Ask) (api.Value, api.Errno) {
	w.out = append(w.out, ask.V)
	w.note(api.Event{Task: t.number, Kind: api.VEmit, V: ask.V})
	return api.Value{}, api.OK
}

func (w *World) tellTime(_ *task, _ api.Ask) (api.Value, api.Errno) {
	return api.Value{Kind: api.KInt, N: w.Now()}, api.OK
}

func (w *World) spawn(t *task, ask api.Ask) (api.Value, api.Errno) {
	n, err := w.grove.Spawn(t.number)
	if err != api.OK {
		return api.Value{}, err
	}
	w.add(n, ask.Fn, ask.Args, 0)
	return api.Value{Kind: api.KTask, N: n}, api.OK
}

func (w *World) strike(t *task, ask api.Ask) (api.Value, api.Errno) {
	if !w.has(ask.V.N) {
		return api.Value{}, api.ErrNone
	}
	w.note(api.Event{Task: t.number, Kind: api.VStrike, N: ask.V.N})
	w.stop(ask.V.N)
	return api.Value{}, api.OK
}

func (w *World) makeChan(t *task, ask api.Ask) (api.Value, api.Errno) {
	n, err := w.board.Make(ask.N, ask.M)
	if err != api.OK {
		return api.Value{}, err
	}
	w.note(api.Event{Task: t.number, Kind: api.VMake, N: n, M: ask.N})
	return api.Value{Kind: api.KChan, N: n}, api.OK
}

func (w *World) closeChan(t *task, ask api.Ask) (api.Value, api.Errno) {
	deals, err := w.board.Close(ask.V.N)
	if err != api.OK {
		return api.Value{}, err
	}
	w.note(api.Event{Task: t.number, Kind: api.VClose, N: ask.V.N})
	w.deal(deals)
	return api.Value{}, api.OK
}

func (w *World) makeLock(t *task, ask api.Ask) (api.Value, api.Errno) {
	n, err := w.table.Make(ask.N)
	if err != api.OK {
		return api.Value{}, err
	}
	w.note(api.Event{Task: t.number, Kind: api.VLock, N: n, M: ask.N})
	return api.Value{Kind: api.KLock, N: n}, api.OK
}

func (w *World) free(t *task, ask api.Ask) (api.Value, api.Errno) {
	next, err := w.table.Free(ask.V.N, t.number)
	if err != api.OK {
		return api.Value{}, err
	}
	w.note(api.Event{Task: t.number, Kind: api.VFree, N: ask.V.N})
	if next > 0 {
		w.goOn(w.task(next), api.Answer{})
	}
	return api.Value{}, api.OK
}

func (w *World) open(t *task, ask api.Ask) (api.Value, api.Errno) {
	until := -1
	if ask.M >= 0 && ask.M <= api.MaxTime-w.Now() {
		until = w.Now() + ask.M
	}
	n, err := w.grove.Open(t.number, ask.N == 1, until)
	if err != api.OK {
		return api.Value{}, err
	}
	w.until = append(w.until, until)
	w.note(api.Event{Task: t.number, Kind: api.VOpen, N: n, M: until})
	return api.Value{}, api.OK
}

// leave has no reply here: that is an effect.
func (w *World) leave(t *task, ask api.Ask) (api.Value, api.Errno) {
	scope := 0
	if l, ok := w.innermost(t); ok {
		scope = l.N
	}
	effects, err := w.grove.Leave(t.number, ask.Fault)
	if err != api.OK {
		return api.Value{}, err
	}
	t.ask, t.phase = ask, api.QLeaves
	w.note(api.Event{Task: t.number, Kind: api.VLeave, N: scope, Fault: ask.Fault})
	w.follow(effects)
	// If it is over at once, that is the effect, and nobody else leaves by this.
	if !slices.ContainsFunc(effects, func(e api.Effect) bool { return e.Kind == api.ELeft }) {
		w.note(api.Event{Task: t.number, Kind: api.VWait, N: api.ALeave})
	}
	return api.Value{}, api.OK
}

func (w *World) shield(t *task, _ api.Ask) (api.Value, api.Errno) {
	err := w.grove.Shield(t.number)
	if err == api.OK {
		w.note(api.Event{Task: t.number, Kind: api.VShield})
	}
	return api.Value{}, err
}

func (w *World) unveil(t *task, _ api.Ask) (api.Value, api.Errno) {
	err := w.grove.Unveil(t.number)
	if err == api.OK {
		w.note(api.Event{Task: t.number, Kind: api.VUnveil})
	}
	return api.Value{}, err
}

func (w *World) acquire(t *task, ask api.Ask) (api.Value, api.Errno) {
	err := w.ledger.Acquire(t.number, ask.N)
	if err == api.OK {
		w.note(api.Event{Task: t.number, Kind: api.VAcquire, N: ask.N})
	}
	return api.Value{}, err
}

func (w *World) release(t *task, ask api.Ask) (api.Value, api.Errno) {
	err := w.ledger.Release(t.number, ask.N)
	if err == api.OK {
		w.note(api.Event{Task: t.number, Kind: api.VRelease, N: ask.N})
	}
	return api.Value{}, err
}

// innermost returns the innermost open link of a task.
func (w *World) innermost(t *task) (api.Link, bool) {
	state, _ := w.grove.Task(t.number)
	if len(state.Open) == 0 {
		return api.Link{}, false
	}
	return state.Open[len(state.Open)-1], true
}
