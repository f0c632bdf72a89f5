package world

import (
	"slices"

	"seedbed/api"
)

// task is a coroutine in a world.
type task struct {
	number  int
	fn      int
	args    []api.Value
	service int // 0: none
	phase   int
	ask     api.Ask // with which it waits, or leaves a scope
	asks    int     // how many it has made
	answers []api.Answer
	frames  []api.Frame // of a compiled coroutine
	waiting []int       // the tasks that wait for its end, in the order in which they began to
	done    bool        // its coroutine is
	v       api.Value   // what it ends with, once it is done
	fault   api.Fault
}

func (t *task) copy() *task {
	other := *t
	// Replies are only added. The copy has no room behind them, so that it puts its next one elsewhere.
	other.answers = slices.Clip(t.answers)
	other.waiting = slices.Clone(t.waiting)
	return &other
}

func (t *task) view() api.View {
	v := api.View{Fn: t.fn, Phase: t.phase, Ask: t.ask.Kind, Asks: t.asks}
	if t.phase == api.QEnded {
		v.V, v.Fault = t.v, t.fault
	}
	return v
}

// ending is the reply to those who wait for a task that has ended.
func (t *task) ending() api.Answer {
	switch {
	case t.fault.Kind == api.FThrow:
		return api.Answer{Fault: t.fault}
	case t.fault.Kind == api.FCancel:
		return api.Answer{Fault: thrown("cancelled")}
	case t.v.Kind != api.KInt:
		return api.Answer{V: api.Value{Kind: api.KInt}}
	}
	return api.Answer{V: t.v}
}

// add makes a task with the number that the grove gave it.
func (w *World) add(n, fn int, args []api.Value, service int) {
	w.tasks = append(w.tasks, &task{number: n, fn: fn, args: args, service: service, phase: api.QReady})
	state, _ := w.grove.Task(n)
	w.note(api.Event{Task: n, Kind: api.VStart, N: state.Scope, M: fn})
}

// has reports whether there is a task with a number.
func (w *World) has(n int) bool { return n >= 1 && n <= len(w.tasks) }

func (w *World) task(n int) *task { return w.tasks[n-1] }

// note puts an event into the trace.
func (w *World) note(e api.Event) {
	e.At = w.Now()
	w.events = append(w.events, e)
}

// step lets a task make turns until it waits, leaves a scope, or is done.
func (w *World) step(t *task) {
	for {
		turn := w.engine.next(t)
		switch {
		case turn.Done:
			w.finish(t, turn.V, turn.Fault)
			return
		case t.asks == api.MaxAsks:
			w.finish(t, api.Value{}, thrown("full"))
			return
		}
		t.asks++
		if !w.serve(t, turn.Ask) {
			return
		}
	}
}

// goOn replies to the ask with which a task waits.
func (w *World) goOn(t *task, a api.Answer) {
	t.answers = append(t.answers, a)
	t.phase = api.QReady
	w.noteGo(t, a)
}

// noteGo notes that the ask with which a task waits is replied to.
func (w *World) noteGo(t *task, a api.Answer) {
	w.note(api.Event{Task: t.number, Kind: api.VGo, N: t.ask.Kind, M: a.Index, V: a.V, Fault: a.Fault})
	t.ask = api.Ask{}
}
