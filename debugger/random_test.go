package debugger

import (
	"math/rand/v2"
	"slices"
	"testing"

	"seedbed/api"
	"seedbed/world"
)

// TestP272Replay checks that wherever a session goes, it shows the run by as many steps.
func TestP272Replay(t *testing.T) {
	t.Parallel()
	steps := 0
	visit(t, 272, 12, 70, func(r *rand.Rand, e *world.Engine, spec api.Spec, picks []int) {
		s := newSession(t, e, spec, picks)
		steps += s.Len()
		if want := len(runOf(t, e, spec, picks).Picks()); s.Len() != want {
			t.Fatalf("Len = %d, want %d", s.Len(), want)
		}
		for range 12 {
			p := r.IntN(s.Len() + 1)
			wantGo(t, s, p)
			w := s.World()
			wantSame(t, w, runOf(t, e, spec, picks[:p]))
			w.Run(picks, r.IntN(9))
			if p < s.Len() {
				before := runOf(t, e, spec, picks[:p])
				known := len(before.Trace())
				before.Step(picks[p])
				if l, err := s.Events(p); !slices.Equal(l, before.Trace()[known:]) || err != api.OK {
					t.Fatalf("Events(%d) = %v, %d", p, l, err)
				}
			}
		}
	})
	if steps < 600 {
		t.Errorf("only %d steps", steps)
	}
}

// hasEvent reports whether a step with these events is looked for.
func hasEvent(list []api.Event, b api.Break) bool {
	for _, e := range list {
		if (b.Kind == 0 || e.Kind == b.Kind) && (b.Task == 0 || e.Task == b.Task) {
			return true
		}
	}
	return false
}

// TestP273Find checks that Find leads to the nearest step with such an event, and that there is none if it says so.
func TestP273Find(t *testing.T) {
	t.Parallel()
	found, none := 0, 0
	visit(t, 273, 12, 60, func(r *rand.Rand, e *world.Engine, spec api.Spec, picks []int) {
		s := newSession(t, e, spec, picks)
		var ends []int // how many events there are at each position
		w := runOf(t, e, spec, nil)
		for _, pick := range append([]int{0}, picks[:s.Len()]...) {
			if ends != nil {
				w.Step(pick)
			}
			ends = append(ends, len(w.Trace()))
		}
		for range 60 {
			from := r.IntN(s.Len() + 1)
			wantGo(t, s, from)
			b := api.Break{Kind: r.IntN(25) - 1, Task: max(0, r.IntN(12)-6)}
			back := r.IntN(2) == 0
			want := 0
			for p := 1; p < len(ends); p++ {
				if (back && p < from || !back && p > from && want == 0) && hasEvent(w.Trace()[ends[p-1]:ends[p]], b) {
					want = p
				}
			}
			p, err := s.Find(b, back)
			if p != want || (err == api.ErrNone) != (want == 0) || err != api.OK && err != api.ErrNone {
				t.Fatalf("Find(%v, %t) from %d = %d, %d, want %d", b, back, from, p, err, want)
			}
			if want == 0 {
				none++
				wantAt(t, s, from)
				continue
			}
			found++
			wantAt(t, s, want)
			wantSame(t, s.World(), runOf(t, e, spec, picks[:want]))
		}
	})
	if found < 300 || none < 300 {
		t.Errorf("%d were found, and %d not", found, none)
	}
}

// waitsFor asks of every task whether one waits for it directly.
func waitsFor(w *world.World, task int) []int {
	var list []int
	v, _ := w.Task(task)
	for n := 1; n <= api.MaxTasks; n++ {
		other, err := w.Task(n)
		if err != api.OK {
			break
		}
		waits := false
		switch v.Ask {
		case api.AAwait:
			waits = w.Awaits(task) == n
		case api.AHold:
			for k := 1; k <= api.MaxLocks; k++ {
				l, _ := w.Lock(k)
				waits = waits || slices.Contains(l.Waiting, task) && slices.ContainsFunc(l.Holders, func(h api.Holder) bool { return h.Party == n })
			}
		case api.ALeave:
			scope := 0 // the last one that the task has opened, and that is not over
			for k := 1; k <= api.MaxScopes; k++ {
				if s, err := w.Scope(k); err == api.OK && s.Owner == task && !s.Over {
					scope = k
				}
			}
			s, _ := w.Scope(scope)
			waits = slices.Contains(s.Tasks, n) && other.Phase != api.QEnded
		}
		if waits {
			list = append(list, n)
		}
	}
	return list
}

// closure is what can be reached by one way or more.
func closure(w *world.World, task int) []int {
	list := waitsFor(w, task)
	for {
		more := slices.Clone(list)
		for _, n := range list {
			more = append(more, waitsFor(w, n)...)
		}
		slices.Sort(more)
		more = slices.Compact(more)
		if len(more) == len(list) {
			return list
		}
		list = more
	}
}

// TestP271WhyRandom holds Why against a second search.
func TestP271WhyRandom(t *testing.T) {
	t.Parallel()
	sizes := map[int]int{}
	visit(t, 271, 12, 60, func(_ *rand.Rand, e *world.Engine, spec api.Spec, picks []int) {
		s := newSession(t, e, spec, picks)
		for p := range s.Len() + 1 {
			wantGo(t, s, p)
			w := s.World()
			for n := 1; n <= api.MaxTasks; n++ {
				l, err := s.Why(n)
				if _, there := w.Task(n); err != there {
					t.Fatalf("Why(%d) = %v, %d, Task: %d", n, l, err, there)
				}
				if want := closure(w, n); !slices.Equal(l, want) {
					t.Fatalf("Why(%d) = %v, want %v; %v", n, l, want, w.Trace())
				}
				if err == api.OK {
					sizes[min(len(l), 5)]++
				}
			}
		}
	})
	for size := range 6 {
		if sizes[size] < 50 {
			t.Errorf("only %d of the size %d", sizes[size], size)
		}
	}
}

// isKnot reports whether a task is in its own Why, and all tasks there wait for others.
func isKnot(w *world.World, task int, why []int) bool {
	for _, n := range why {
		if v, _ := w.Task(n); v.Ask != api.AAwait && v.Ask != api.AHold && v.Ask != api.ALeave {
			return false
		}
	}
	return slices.Contains(why, task)
}

// TestP274Knots checks that tasks that wait for each other do not continue without a cancellation or time.
func TestP274Knots(t *testing.T) {
	t.Parallel()
	knots, freed := 0, 0
	visit(t, 274, 40, 60, func(r *rand.Rand, e *world.Engine, spec api.Spec, picks []int) {
		s := newSession(t, e, spec, picks)
		for p := range s.Len() + 1 {
			wantGo(t, s, p)
			w := s.World()
			for n := 1; ; n++ {
				why, err := s.Why(n)
				if err != api.OK {
					break
				}
				if !isKnot(w, n, why) {
					continue
				}
				knots++
				on := s.World()
				known := len(on.Trace())
				for range 40 {
					on.Step(r.IntN(50))
				}
				for _, x := range on.Trace()[known:] {
					if x.Kind == api.VTime || x.Kind == api.VCancel && slices.Contains(why, x.Task) {
						freed++
						break
					}
					if x.Kind == api.VGo && slices.Contains(why, x.Task) {
						t.Fatalf("%d is in its Why, %v, at %d, and %v", n, why, p, on.Trace())
					}
				}
			}
		}
	})
	if knots < 300 || freed < 10 {
		t.Errorf("only %d knots, of which %d were freed", knots, freed)
	}
}
