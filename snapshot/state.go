package snapshot

import (
	"iter"

	"seedbed/api"
	"seedbed/world"
)

// state writes the state of a run.
func (w *writer) state(run *world.World) {
	w.words("time").numbers(run.Now(), run.Status()).end()
	w.words("out").values(run.Out()...).end()
	w.tasks(run)
	w.chans(run)
	w.locks(run)
	w.scopes(run)
	w.services(run)
	for at, d := range run.Timers() {
		w.words("timer").numbers(at, d.Who, d.Index).end()
	}
	for _, e := range run.Log() {
		w.words("entry").numbers(e.What, e.Task, e.From, e.To).end()
	}
	w.words("end").end()
}

// numbered visits what has the numbers from 1 on.
func numbered[T any](get func(n int) (T, api.Errno)) iter.Seq2[int, T] {
	return func(yield func(int, T) bool) {
		for n := 1; ; n++ {
			x, err := get(n)
			if err != api.OK || !yield(n, x) {
				return
			}
		}
	}
}

func (w *writer) tasks(run *world.World) {
	for n, v := range numbered(run.Task) {
		w.words("task").numbers(n, v.Fn, v.Phase, v.Ask, v.Asks)
		w.flags(run.Struck(api.Link{Kind: api.LTask, N: n})).numbers(run.Serves(n))
		w.values(v.V).fault(v.Fault).colon().values(run.Args(n)...).end()
	}
}

func (w *writer) chans(run *world.World) {
	for n, c := range numbered(run.Chan) {
		w.words("chan").numbers(n, c.Cap, c.Policy).flags(c.Closed).numbers(c.Dropped).values(c.Buffer...).colon()
		for _, x := range c.Waiters {
			w.numbers(x.Ticket)
			if x.Send {
				w.values(x.V)
			}
		}
		w.end()
	}
}

func (w *writer) locks(run *world.World) {
	for n, l := range numbered(run.Lock) {
		w.words("lock").numbers(n, l.Permits, l.Free)
		for _, h := range l.Holders {
			w.numbers(h.Party, h.N)
		}
		w.colon().numbers(l.Waiting...).end()
	}
}

func (w *writer) scopes(run *world.World) {
	for n, s := range numbered(run.Scope) {
		w.words("scope").numbers(n, s.Owner)
		w.flags(s.Supervised, s.Over, run.Struck(api.Link{Kind: api.LScope, N: n}))
		w.numbers(run.Until(n)).numbers(s.Tasks...).colon().fault(s.Fault).end()
	}
}

// services writes the services, and the rest of what their warden knows.
func (w *writer) services(run *world.World) {
	for i := range run.Spec().Services {
		state, at := run.Service(i + 1)
		w.words("state").numbers(i+1, state, at).end()
	}
	w.words("warden").numbers(run.Delay()).numbers(run.Restarts()...).end()
}
