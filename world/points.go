package world

import (
	"slices"

	"seedbed/api"
)

// outcome is what a point comes to at once.
type outcome struct {
	ready  bool // there is a reply
	reply  api.Answer
	others []api.Deal // of tasks that go on by it
}

// attempt does what a task asks for at a point, or lets it wait.
type attempt func(w *World, t *task, ask api.Ask) (outcome, api.Errno)

// attempts returns what is done at points, by the kinds of the asks.
func attempts() [api.ASelect + 1]attempt {
	return [...]attempt{
		api.AYield:   (*World).yield,
		api.ASleep:   (*World).sleep,
		api.AAwait:   (*World).await,
		api.ASend:    (*World).send,
		api.AReceive: (*World).receive,
		api.AHold:    (*World).hold,
		api.ASelect:  (*World).choose,
	}
}

// point lets a task that has come to a point go on, or wait.
func (w *World) point(t *task, ask api.Ask) {
	t.ask = ask
	if w.grove.Pending(t.number) {
		w.goOn(t, api.Answer{Fault: cancelled()})
		return
	}
	result, err := outcome{}, api.ErrKind
	if isFit(ask) {
		result, err = attempts()[ask.Kind](w, t, ask)
	}
	switch {
	case err != api.OK:
		w.goOn(t, api.Answer{Fault: refusal(err)})
	case result.ready:
		w.goOn(t, result.reply)
		w.deal(result.others)
	default:
		t.phase = api.QWaits
		w.note(api.Event{Task: t.number, Kind: api.VWait, N: ask.Kind})
	}
}

func (w *World) yield(_ *task, _ api.Ask) (outcome, api.Errno) {
	return outcome{ready: true}, api.OK
}

func (w *World) sleep(t *task, ask api.Ask) (outcome, api.Errno) {
	return w.choice(t, false, api.Arm{Op: api.CAfter, N: ask.N})
}

func (w *World) send(t *task, ask api.Ask) (outcome, api.Errno) {
	return w.choice(t, false, api.Arm{Op: api.CSend, V: ask.V, W: ask.W})
}

func (w *World) receive(t *task, ask api.Ask) (outcome, api.Errno) {
	return w.choice(t, false, api.Arm{Op: api.CReceive, V: ask.V})
}

func (w *World) choose(t *task, ask api.Ask) (outcome, api.Errno) {
	return w.choice(t, ask.N == 1, ask.Arms...)
}

// choice asks the board for the first of some arms.
func (w *World) choice(t *task, or bool, arms ...api.Arm) (outcome, api.Errno) {
	deals, err := w.board.Choose(t.number, arms, or)
	if err != api.OK || len(deals) == 0 {
		return outcome{}, err
	}
	return outcome{ready: true, reply: replyOf(t.ask, deals[0]), others: deals[1:]}, api.OK
}

// replyOf returns the reply to a deal.
func replyOf(ask api.Ask, d api.Deal) api.Answer {
	switch {
	case d.Fault != api.Fault{}:
		return api.Answer{Fault: d.Fault}
	case ask.Kind == api.ASelect:
		return api.Answer{Index: d.Index, V: d.V}
	}
	return api.Answer{V: d.V}
}

func (w *World) hold(t *task, ask api.Ask) (outcome, api.Errno) {
	has, err := w.table.Hold(ask.V.N, t.number)
	return outcome{ready: has}, err
}

func (w *World) await(t *task, ask api.Ask) (outcome, api.Errno) {
	if !w.has(ask.V.N) {
		return outcome{}, api.ErrNone
	}
	other := w.task(ask.V.N)
	if other.phase == api.QEnded {
		return outcome{ready: true, reply: other.ending()}, api.OK
	}
	other.waiting = append(other.waiting, t.number)
	return outcome{}, api.OK
}

// withdraw lets a task wait no more.
func (w *World) withdraw(t *task) {
	switch t.ask.Kind {
	case api.AAwait:
		other := w.task(t.ask.V.N)
		other.waiting = slices.DeleteFunc(other.waiting, func(n int) bool { return n == t.number })
	case api.AHold:
		w.table.Withdraw(t.number)
	default:
		w.board.Withdraw(t.number)
	}
}

func cancelled() api.Fault { return api.Fault{Kind: api.FCancel} }
