package world

import (
	"slices"
	"testing"

	"seedbed/api"
)

// checkState checks P24.3 to P24.5, and that those who wait could not go on, as P17.4 and P18.4 have it.
func checkState(t *testing.T, w *World) {
	t.Helper()
	for _, x := range w.tasks {
		if x.phase == api.QEnded {
			continue
		}
		checkWithin(t, w, x.number)
		if pending := w.Pending(x.number); pending && x.phase == api.QWaits {
			t.Fatalf("%d is pending, and waits; %s", x.number, traceOf(w))
		}
		if x.phase == api.QWaits {
			checkWaits(t, w, x)
		}
	}
}

// checkWithin checks that the scope of a running task and the scope's owner run.
func checkWithin(t *testing.T, w *World, n int) {
	t.Helper()
	chain, err := w.Chain(n)
	at := slices.Index(chain, api.Link{Kind: api.LTask, N: n})
	if err != api.OK || at < 0 {
		t.Fatalf("Chain(%d) = %v, %d", n, chain, err)
	}
	if at+1 == len(chain) {
		return
	}
	s, err := w.Scope(chain[at+1].N)
	if v, _ := w.Task(s.Owner); err != api.OK || s.Over || !slices.Contains(s.Tasks, n) || v.Phase == api.QEnded {
		t.Fatalf("the scope of %d is %v, and its owner %v", n, s, v)
	}
}

// checkWaits checks that a task that waits does so where it says, and could not go on.
func checkWaits(t *testing.T, w *World, x *task) {
	t.Helper()
	switch x.ask.Kind {
	case api.AAwait:
		if v, _ := w.Task(x.ask.V.N); v.Phase == api.QEnded {
			t.Fatalf("%d waits for %d, which has ended", x.number, x.ask.V.N)
		}
	case api.AHold:
		if l, _ := w.Lock(x.ask.V.N); l.Free > 0 || !slices.Contains(l.Waiting, x.number) {
			t.Fatalf("%d waits for a lock: %v", x.number, l)
		}
	case api.ASend:
		checkArm(t, w, x, api.Arm{Op: api.CSend, V: x.ask.V})
	case api.AReceive:
		checkArm(t, w, x, api.Arm{Op: api.CReceive, V: x.ask.V})
	case api.ASelect:
		for _, a := range x.ask.Arms {
			checkArm(t, w, x, a)
		}
	}
}

func checkArm(t *testing.T, w *World, x *task, a api.Arm) {
	t.Helper()
	if a.Op == api.CAfter {
		return
	}
	c, _ := w.Chan(a.V.N)
	send := a.Op == api.CSend
	meets := func(y api.Waiter) bool { return y.Send != send && y.Ticket/api.MaxCases != x.number }
	own := func(y api.Waiter) bool { return y.Send == send && y.Ticket/api.MaxCases == x.number }
	if c.Closed || slices.ContainsFunc(c.Waiters, meets) || !slices.ContainsFunc(c.Waiters, own) || !send && len(c.Buffer) > 0 || send && (len(c.Buffer) < c.Cap || c.Policy != api.PWait) {
		t.Fatalf("%d waits with %v: %v; %s", x.number, a, c, traceOf(w))
	}
}

// story is what the events of a trace tell of its tasks, scopes and resources.
type story struct {
	t      *testing.T
	text   string
	views  map[int]*api.View
	links  map[int][]int // of a task; scopes, and 0 for a shield
	owners map[int]int   // of open scopes
	within map[int]int   // the scopes of tasks
	held   map[int][]int
	log    []api.Entry
	deeds  int // acquisitions and releases
}

func (s *story) need(fits bool, e api.Event, what string) {
	s.t.Helper()
	if !fits {
		s.t.Fatalf("%s: %s; %s", eventText(e), what, s.text)
	}
}

// checkStory checks the events of a run, and what the run says against them. Only coroutines of programs leave what they have opened themselves, and in the right order.
func checkStory(t *testing.T, w *World, program bool) {
	t.Helper()
	s := &story{t: t, text: traceOf(w), views: map[int]*api.View{}, links: map[int][]int{}, owners: map[int]int{}, within: map[int]int{}, held: map[int][]int{}}
	var out []api.Value
	for i, e := range w.Trace() {
		s.need(i == 0 || e.At >= w.events[i-1].At, e, "time goes back")
		if e.Kind == api.VEmit {
			out = append(out, e.V)
		}
		if e.Task == 0 {
			s.need(slices.Contains([]int{api.VTime, api.VLate, api.VOrder}, e.Kind), e, "no task")
			continue
		}
		v := s.views[e.Task]
		s.need((v == nil) == (e.Kind == api.VStart) && (v == nil || v.Phase != api.QEnded), e, "not begun, or ended")
		if v == nil {
			s.views[e.Task] = &api.View{Fn: e.M, Phase: api.QReady}
			s.need(e.N == 0 || s.owners[e.N] > 0, e, "no such scope")
			s.within[e.Task] = e.N
			continue
		}
		s.turn(e, v)
		s.scope(e, v, program)
		s.resource(e, program)
	}
	for n, v := range s.views {
		got, _ := w.Task(n)
		v.Asks = got.Asks
		if *v != got {
			t.Fatalf("Task(%d) = %v, want %v; %s", n, got, *v, s.text)
		}
	}
	if len(s.views) != len(w.tasks) || !slices.Equal(out, w.Out()) || !slices.Equal(s.log, w.Log()) || len(w.events) > 0 && w.Now() != w.events[len(w.events)-1].At {
		t.Fatalf("%v, %v, %d; %s", w.Out(), w.Log(), w.Now(), s.text)
	}
}

// turn follows the phases of a task.
func (s *story) turn(e api.Event, v *api.View) {
	switch e.Kind {
	case api.VWait:
		s.need(v.Phase == api.QReady, e, "it does not run")
		v.Phase, v.Ask = api.QWaits, e.N
		if e.N == api.ALeave {
			v.Phase = api.QLeaves
		}
	case api.VGo:
		s.need(v.Phase == api.QReady || v.Ask == e.N, e, "another ask")
		v.Phase, v.Ask = api.QReady, 0
	case api.VEnd:
		v.Phase, v.V, v.Fault = api.QEnded, e.V, e.Fault
	case api.VCancel, api.VLeft:
	default:
		s.need(v.Phase == api.QReady, e, "it does not run")
	}
}

// scope follows what a task opens and leaves.
func (s *story) scope(e api.Event, v *api.View, program bool) {
	links := s.links[e.Task]
	last := len(links) - 1
	switch e.Kind {
	case api.VOpen:
		s.owners[e.N] = e.Task
		s.links[e.Task] = append(links, e.N)
	case api.VShield:
		s.links[e.Task] = append(links, 0)
	case api.VUnveil:
		s.need(last >= 0 && links[last] == 0, e, "no shield")
		s.links[e.Task] = links[:last]
	case api.VLeave:
		s.need(last >= 0 && links[last] == e.N, e, "not the innermost one")
	case api.VLeft:
		s.need(last >= 0 && links[last] == e.N && s.owners[e.N] == e.Task, e, "not the innermost one")
		for n, scope := range s.within {
			s.need(scope != e.N || s.views[n].Phase == api.QEnded, e, "a task runs")
		}
		s.links[e.Task] = links[:last]
		delete(s.owners, e.N)
	case api.VEnd:
		s.need(len(links) == 0 && len(s.held[e.Task]) == 0, e, "something is open")
	}
}

// resource follows what a task has.
func (s *story) resource(e api.Event, program bool) {
	held := s.held[e.Task]
	switch e.Kind {
	case api.VAcquire:
		s.deeds++
		s.log = append(s.log, api.Entry{What: e.N, Task: e.Task, From: s.deeds})
		s.held[e.Task] = append(held, len(s.log)-1)
	case api.VRelease, api.VLeak:
		s.deeds++
		at := len(held) - 1
		for at >= 0 && s.log[held[at]].What != e.N {
			at--
		}
		s.need(at >= 0, e, "it does not have this")
		s.need(!program || e.Kind == api.VRelease && at == len(held)-1, e, "a leak, or a wrong order")
		s.log[held[at]].To = s.deeds
		s.held[e.Task] = slices.Delete(held, at, at+1)
	}
}
