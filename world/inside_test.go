package world

import (
	"math"
	"slices"
	"strconv"
	"testing"

	"seedbed/api"
)

// timersOf returns the times, parties and positions of the timers.
func timersOf(w *World) string {
	text := ""
	for at, d := range w.Timers() {
		text += " " + strconv.Itoa(at) + ":" + strconv.Itoa(d.Who) + ":" + strconv.Itoa(d.Index)
	}
	return text
}

// strikes is what the events of a trace tell of what is struck, and of the deadlines and faults of scopes.
type strikes struct {
	w      *World
	struck map[api.Link]bool
	until  map[int]int
	faults map[int]api.Fault
	within map[int]int // the scopes of the tasks that run
	served map[int]int // the last tasks of the services
}

func (s *strikes) strikeTask(n int) {
	if _, runs := s.within[n]; runs {
		s.struck[api.Link{Kind: api.LTask, N: n}] = true
	}
}

func (s *strikes) strikeScope(n int) { s.struck[api.Link{Kind: api.LScope, N: n}] = true }

// fail gives a scope a fault, and reports whether it is the first one.
func (s *strikes) fail(scope int, f api.Fault) bool {
	if f.Kind != api.FThrow || s.faults[scope] != (api.Fault{}) {
		return false
	}
	s.faults[scope] = f
	return true
}

func (s *strikes) runs(scope int) bool {
	for _, in := range s.within {
		if in == scope {
			return true
		}
	}
	return false
}

func (s *strikes) follow(e api.Event) {
	switch e.Kind {
	case api.VStart:
		s.within[e.Task] = e.N
		if service := s.w.Serves(e.Task); service > 0 {
			s.served[service] = e.Task
		}
	case api.VOpen:
		s.until[e.N] = e.M
	case api.VStrike:
		s.strikeTask(e.N)
	case api.VOrder:
		if e.M == api.OStop {
			s.strikeTask(s.served[e.N])
		}
	case api.VLate:
		s.until[e.N] = -1
		s.fail(e.N, thrown("late"))
		s.strikeScope(e.N)
	case api.VLeave:
		s.fail(e.N, e.Fault)
		if e.Fault.Kind != api.FNone && s.runs(e.N) {
			s.strikeScope(e.N)
		}
	case api.VLeft:
		s.until[e.N] = -1
	case api.VEnd:
		in := s.within[e.Task]
		delete(s.within, e.Task)
		if state, _ := s.w.Scope(in); in > 0 && !state.Supervised && s.fail(in, e.Fault) {
			s.strikeScope(in)
		}
	}
}

// checkStrikes holds what a run says of what is struck, and of deadlines and faults, against what its events tell.
func checkStrikes(t *testing.T, w *World) {
	t.Helper()
	s := &strikes{w: w, struck: map[api.Link]bool{}, until: map[int]int{}, faults: map[int]api.Fault{}, within: map[int]int{}, served: map[int]int{}}
	for _, e := range w.Trace() {
		s.follow(e)
	}
	for n := range w.tasks {
		if l := (api.Link{Kind: api.LTask, N: n + 1}); w.Struck(l) != s.struck[l] {
			t.Fatalf("Struck(%v) = %t; %s", l, w.Struck(l), traceOf(w))
		}
	}
	for n := range s.until {
		l := api.Link{Kind: api.LScope, N: n}
		state, _ := w.Scope(n)
		if w.Struck(l) != s.struck[l] || w.Until(n) != s.until[n] || state.Fault != s.faults[n] {
			t.Fatalf("scope %d: %t, %d, %v; %s", n, w.Struck(l), w.Until(n), state.Fault, traceOf(w))
		}
	}
}

// TestP261InsideRandom checks that in random runs.
func TestP261InsideRandom(t *testing.T) {
	t.Parallel()
	struck := map[int]int{}
	count := func(w *World) {
		checkStrikes(t, w)
		for kind := api.LTask; kind <= api.LScope; kind++ {
			for n := range api.MaxScopes {
				if w.Struck(api.Link{Kind: kind, N: n}) {
					struck[kind]++
				}
			}
		}
	}
	authors(t, 261, 100, func(a *author, source string) {
		direct, _ := engines(t, source)
		w := newWorld(t, direct, a.spec())
		for _, pick := range append(a.picks(60), make([]int, 40)...) {
			w.Step(pick)
			checkStrikes(t, w)
		}
		count(w)
	})
	for seed := range uint64(200) {
		a := newWild(261, seed)
		w := play(t, a.spec(), a.script()...)
		for range 100 {
			w.Step(a.r.IntN(50))
		}
		count(w)
	}
	if struck[api.LTask] < 100 || struck[api.LScope] < 100 {
		t.Errorf("only %v are struck", struck)
	}
}

// TestP261Inside checks what the run says that only a snapshot tells.
func TestP261Inside(t *testing.T) {
	s := api.Spec{Rule: api.RAll, Most: 2, Within: 4, Base: 3, Cap: 9, Services: []api.Service{{Fn: 1, Args: []api.Value{val(4), lo(2)}, When: api.WAlways}, {When: api.WNever}}}
	arms := []api.Arm{{Op: api.CReceive, V: ch(1)}, {Op: api.CAfter, N: 6}, {Op: api.CAfter, N: 2}}
	w := play(t, s, asks(askN(api.AChan, 0), opens(0, 7), api.Ask{Kind: api.ASpawn, Fn: 2, Args: []api.Value{ch(1)}}, api.Ask{Kind: api.ASelect, Arms: arms}, askV(api.ACancel, job(3)), ask(api.AShield), askN(api.ASleep, 9)), asks(askN(api.ASleep, 2), ask(api.AYield), ask(api.AYield)), asks(askN(api.ASleep, 3)))
	want := func(step, delay int, restarts []int, timers string, until int) {
		t.Helper()
		if w.Delay() != delay || !slices.Equal(w.Restarts(), restarts) || timersOf(w) != timers || w.Until(1) != until {
			t.Errorf("step %d: %d, %v,%s, %d; %s", step, w.Delay(), w.Restarts(), timersOf(w), w.Until(1), traceOf(w))
		}
	}
	wantMade := func(n, service int, args ...api.Value) {
		t.Helper()
		if !slices.Equal(w.Args(n), args) || w.Serves(n) != service {
			t.Errorf("task %d: %v of %d", n, w.Args(n), w.Serves(n))
		}
	}
	want(0, 0, nil, "", -1)
	w.Run([]int{1, 0, 0}, 3)
	want(3, 0, nil, " 2:2:2 2:1:0 3:3:0 6:2:1", 7)
	wantMade(1, 1, val(4), lo(2))
	wantMade(2, 2)
	wantMade(3, 0, ch(1))
	clear(w.Args(1))
	wantMade(1, 1, val(4), lo(2))
	w.Run([]int{0, 1, 0, 0, 0}, 5) // time; the service 2; three times the service 1, which ends
	want(8, 3, []int{2}, " 11:2:0", 7)
	clear(w.Restarts())
	want(8, 3, []int{2}, " 11:2:0", 7)
	for l, struck := range map[api.Link]bool{{Kind: api.LTask, N: 1}: false, {Kind: api.LTask, N: 2}: true, {Kind: api.LTask, N: 3}: true, {Kind: api.LScope, N: 1}: false, {Kind: api.LShield}: false, {Kind: api.LTask, N: 4}: false} {
		if w.Struck(l) != struck {
			t.Errorf("Struck(%v) = %t", l, !struck)
		}
	}
	w.Run(nil, 8) // the task 3 ends; times 7 and 11; main ends; time 14; all three begin
	want(16, 0, []int{2}, " 16:4:0 16:5:2 17:6:0 20:5:1", -1)
	wantMade(4, 1, val(4), lo(2))
	wantMade(5, 2)
	wantMade(6, 0, ch(1))
}

// TestP261Outside checks what there is not.
func TestP261Outside(t *testing.T) {
	w := play(t, plainSpec(0), asks(opens(0, -1), askN(api.ASleep, 1)))
	for _, w := range []*World{nil, {}, w} {
		for _, n := range []int{0, -1, 3, math.MaxInt, math.MinInt} {
			if w.Args(n) != nil || w.Serves(n) != 0 || w.Until(n) != -1 || w.Struck(api.Link{Kind: n, N: n}) {
				t.Errorf("%d: %v, %d, %d", n, w.Args(n), w.Serves(n), w.Until(n))
			}
		}
		if w.Restarts() != nil || w.Delay() != 0 || timersOf(w) != "" {
			t.Errorf("%v, %d,%s", w.Restarts(), w.Delay(), timersOf(w))
		}
	}
}

// checkMore checks what a run says of those who wait for others, and of parts of its trace, after a step from a position of the trace on.
func checkMore(t *testing.T, w *World, from int) {
	t.Helper()
	for _, x := range w.tasks {
		want := 0
		for _, other := range w.tasks {
			if slices.Contains(other.waiting, x.number) && other.phase != api.QEnded {
				want = other.number
			}
		}
		if n := w.Awaits(x.number); n != want {
			t.Fatalf("Awaits(%d) = %d, want %d; %s", x.number, n, want, traceOf(w))
		}
	}
	if l := w.Since(from); !slices.Equal(slices.Concat(w.Trace()[:from], l), w.Trace()) {
		t.Fatalf("Since(%d) = %v", from, l)
	}
}

// TestP271More checks that in random runs.
func TestP271More(t *testing.T) {
	t.Parallel()
	waits := 0
	for seed := range uint64(200) {
		a := newWild(271, seed)
		w := play(t, a.spec(), a.script()...)
		for range 60 {
			from := len(w.Trace())
			w.Step(a.r.IntN(50))
			checkMore(t, w, from)
			for n := range w.tasks {
				waits += min(1, w.Awaits(n+1))
			}
		}
	}
	if waits < 500 {
		t.Errorf("only %d tasks wait for others", waits)
	}
}

// TestP271Outside checks whom nobody awaits, and positions that are none.
func TestP271Outside(t *testing.T) {
	w := play(t, plainSpec(0, 1), asks(opens(0, -1), spawns(1), askV(api.AAwait, job(3))), asks(askN(api.ASleep, 1)))
	w.Run(nil, 2)
	for n, want := range map[int]int{1: 3, 2: 0, 3: 0, 4: 0, 0: 0, -1: 0, math.MaxInt: 0, math.MinInt: 0} {
		if got := w.Awaits(n); got != want {
			t.Errorf("Awaits(%d) = %d, want %d", n, got, want)
		}
	}
	all := w.Trace()
	for at, want := range map[int][]api.Event{0: all, -1: all, math.MinInt: all, 2: all[2:], len(all): nil, len(all) + 1: nil, math.MaxInt: nil} {
		l := w.Since(at)
		if !slices.Equal(l, want) {
			t.Errorf("Since(%d) = %v, want %v", at, l, want)
		}
		clear(l)
	}
	if !slices.Equal(w.Trace(), all) {
		t.Errorf("the trace is %s", traceOf(w))
	}
	for _, w := range []*World{nil, {}} {
		for _, n := range []int{0, 1, -1} {
			if w.Awaits(n) != 0 || len(w.Since(n)) != 0 {
				t.Errorf("Awaits(%d) = %d, Since(%d) = %v", n, w.Awaits(n), n, w.Since(n))
			}
		}
	}
}
