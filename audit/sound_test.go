package audit

import (
	"math/rand/v2"
	"testing"

	"seedbed/api"
	"seedbed/world"
)

// fake is a run whose parts are as one likes.
type fake struct {
	tasks   []api.View
	scopes  []api.ScopeState
	chans   []api.ChanState
	locks   []api.LockState
	pending map[int]bool
	awaits  map[int]int
}

func part[T any](list []T, n int) (T, api.Errno) {
	if n < 1 || n > len(list) {
		var zero T
		return zero, api.ErrNone
	}
	return list[n-1], api.OK
}

func (f fake) Task(n int) (api.View, api.Errno)        { return part(f.tasks, n) }
func (f fake) Scope(n int) (api.ScopeState, api.Errno) { return part(f.scopes, n) }
func (f fake) Chan(n int) (api.ChanState, api.Errno)   { return part(f.chans, n) }
func (f fake) Lock(n int) (api.LockState, api.Errno)   { return part(f.locks, n) }
func (f fake) Pending(n int) bool                      { return f.pending[n] }
func (f fake) Awaits(n int) int                        { return f.awaits[n] }

// waiters are tickets, of which those below 0 send.
func waiters(tickets ...int) []api.Waiter {
	var list []api.Waiter
	for _, n := range tickets {
		list = append(list, api.Waiter{Ticket: max(n, -n), Send: n < 0})
	}
	return list
}

// TestP281Sound checks each part of P24.3 to P24.5 on runs that are not as they should be.
func TestP281Sound(t *testing.T) {
	ready, waits, leaves, ended := api.View{Phase: api.QReady}, api.View{Phase: api.QWaits, Ask: api.AAwait}, api.View{Phase: api.QLeaves, Ask: api.ALeave}, api.View{Phase: api.QEnded}
	tasks := []api.View{leaves, waits, ready, ended}
	value := []api.Value{{Kind: api.KInt, N: 1}}
	for _, x := range []struct {
		name string
		run  fake
		want bool
	}{
		{"nothing", fake{}, true},
		{"tasks in a scope", fake{tasks: tasks, scopes: []api.ScopeState{{Owner: 1, Tasks: []int{2, 3, 4}}}}, true},
		{"a task outlives its scope", fake{tasks: tasks, scopes: []api.ScopeState{{Owner: 1, Tasks: []int{4}}, {Owner: 1, Tasks: []int{4, 3}, Over: true}}}, false},
		{"a scope is over", fake{tasks: tasks, scopes: []api.ScopeState{{Owner: 1, Tasks: []int{4}, Over: true}}}, true},
		{"a task outlives its scope's owner", fake{tasks: tasks, scopes: []api.ScopeState{{Owner: 4, Tasks: []int{2}}}}, false},
		{"a scope's owner and its tasks have ended", fake{tasks: tasks, scopes: []api.ScopeState{{Owner: 4, Tasks: []int{4}}}}, true},
		{"a scope of nobody", fake{tasks: tasks, scopes: []api.ScopeState{{Owner: 9, Tasks: []int{2}}}}, false},
		{"a pending task is ready", fake{tasks: tasks, pending: map[int]bool{3: true}}, true},
		{"a pending task leaves", fake{tasks: tasks, pending: map[int]bool{1: true}}, true},
		{"a pending task has ended", fake{tasks: tasks, pending: map[int]bool{4: true}}, true},
		{"a pending task waits", fake{tasks: tasks, pending: map[int]bool{2: true}}, false},
		{"a task awaits one that runs", fake{tasks: tasks, awaits: map[int]int{2: 3}}, true},
		{"a task awaits itself", fake{tasks: tasks, awaits: map[int]int{2: 2}}, true},
		{"a task awaits one that has ended", fake{tasks: tasks, awaits: map[int]int{2: 4}}, false},
		{"a task awaits one that there is not", fake{tasks: tasks, awaits: map[int]int{2: 5}}, false},
		{"a lock is held", fake{locks: []api.LockState{{Permits: 1, Waiting: []int{2}}, {Permits: 2, Free: 2}}}, true},
		{"a permit is free", fake{locks: []api.LockState{{Permits: 1}, {Permits: 2, Free: 1, Waiting: []int{2}}}}, false},
		{"receivers wait", fake{chans: []api.ChanState{{Waiters: waiters(8, 12)}}}, true},
		{"senders wait", fake{chans: []api.ChanState{{Cap: 1, Buffer: value, Waiters: waiters(-8, -12)}}}, true},
		{"a party does not meet itself", fake{chans: []api.ChanState{{Waiters: waiters(-8, 9, 10, -11)}}}, true},
		{"parties meet", fake{chans: []api.ChanState{{}, {Waiters: waiters(-11, 12)}}}, false},
		{"parties meet the other way round", fake{chans: []api.ChanState{{Waiters: waiters(9, 8, 12, -17)}}}, false},
		{"somebody waits for a value that is there", fake{chans: []api.ChanState{{Cap: 1, Buffer: value, Waiters: waiters(8)}}}, false},
		{"also behind a sender", fake{chans: []api.ChanState{{Cap: 1, Buffer: value, Waiters: waiters(-8, 9)}}}, false},
		{"a channel is closed", fake{chans: []api.ChanState{{Closed: true, Cap: 1, Buffer: value}}}, true},
		{"a receiver waits for a closed channel", fake{chans: []api.ChanState{{Closed: true, Waiters: waiters(8)}}}, false},
		{"a sender waits for a closed channel", fake{chans: []api.ChanState{{}, {}, {Closed: true, Waiters: waiters(-8)}}}, false},
	} {
		if got := isSound(x.run); got != x.want {
			t.Errorf("%s: %t", x.name, got)
		}
	}
}

// TestP281SoundRuns checks runs whose traces break rules, and others.
func TestP281SoundRuns(t *testing.T) {
	if Sound(nil) || !Sound(&world.World{}) {
		t.Error("Sound of nothing")
	}
	head := "fn main 0 2\n  const 0 0 0 - 5\n  const 1 0 0 - 6\n  ask -1 20 0 0 unit\n  ask -1 20 0 1 unit\n"
	tail := "  return -1 0 0 - unit\n"
	for _, x := range []struct {
		name string
		e    *world.Engine
		want string
	}{
		{"releases in order", codeEngine(t, head+"  ask -1 21 0 1 unit\n  ask -1 21 0 0 unit\n"+tail), ""},
		{"crossed releases", codeEngine(t, head+"  ask -1 21 0 0 unit\n  ask -1 21 0 1 unit\n"+tail), "3:8"},
		{"a leak", codeEngine(t, head+"  ask -1 21 0 1 unit\n"+tail), "4:9"},
		{"leaks", codeEngine(t, head+tail), "3:9 4:9"},
		{"what is not held", codeEngine(t, "fn main 0 1\n  const 0 0 0 - 5\n  ask -1 21 0 0 unit\n"+tail), ""},
		{"scopes and shields stay open", codeEngine(t, "fn main 0 1\n  ask -1 16 0 - unit\n  ask -1 18 0 - unit\n  ask -1 16 0 - unit\n  ask -1 18 0 - unit\n"+tail), ""},
		{"too many asks", engines(t, `fn main() { use r = 3 { while true { emit 1; } } }`)[0], "401:9"},
		{"too many steps", engines(t, `fn main() { use r = 3 { while true { } } }`)[1], "2:9"},
		{"no coroutines", &world.Engine{}, ""},
	} {
		w := newWorld(t, x.e, services(0))
		if !Sound(w) {
			t.Errorf("%s: not sound before the first step", x.name)
		}
		w.Run(nil, 9)
		if got := textOfFindings(Check(w.Trace())); got != x.want || Sound(w) != (got == "") {
			t.Errorf("%s: Check = %q, want %q, Sound = %t; %s", x.name, got, x.want, Sound(w), textOfEvents(w.Trace()))
		}
	}
}

// TestP282Sound checks that runs are sound after every step, and that to ask changes nothing.
func TestP282Sound(t *testing.T) {
	t.Parallel()
	kinds := map[int]int{}
	for i, source := range plays() {
		for _, e := range engines(t, source) {
			for seed := range uint64(20) {
				r := rand.New(rand.NewPCG(283, seed*10+uint64(i)))
				s := services(0, 0)
				s.Services[0].When, s.Most = 1+r.IntN(3), r.IntN(3)
				w := newWorld(t, e, s)
				for range 80 {
					before := textOf(w)
					if !Sound(w) || textOf(w) != before {
						t.Fatalf("%s: not sound: %s; %s", source, textOfFindings(Check(w.Trace())), textOfEvents(w.Trace()))
					}
					w.Step(r.IntN(60))
				}
				for _, e := range w.Trace() {
					kinds[e.Kind]++
				}
			}
		}
	}
	for kind := api.VStart; kind <= api.VLeft; kind++ {
		if kinds[kind] < 20 != (kind == api.VLeak) {
			t.Errorf("%d events %s", kinds[kind], kindNames[kind])
		}
	}
}
