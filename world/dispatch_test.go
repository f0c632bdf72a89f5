package world

import (
	"math"
	"slices"
	"testing"

	"seedbed/api"
	"seedbed/steal"
)

// TestP241Dispatch checks runs by workers.
func TestP241Dispatch(t *testing.T) {
	yields := func(n int) []api.Turn {
		return asks(slices.Repeat([]api.Ask{ask(api.AYield)}, n)...)
	}
	for _, x := range []struct {
		name    string
		workers int
		seeds   []int
		most    int
		script  script
		ready   []int // after it
		picks   []int
	}{
		{"no turns", 2, nil, 0, script{yields(1), yields(1)}, []int{1, 2}, nil},
		{"fewer than none", 2, nil, math.MinInt, script{yields(1), yields(1)}, []int{1, 2}, nil},
		{"one worker has a queue", 1, nil, 4, script{yields(2), yields(2), yields(2)}, []int{1, 2, 3}, []int{0, 1, 2, 0}},
		{"a thief takes the first half", 2, nil, 3, script{yields(2), yields(2), yields(2)}, []int{1, 2, 3}, []int{0, 1, 0}},
		{"and has its own", 2, nil, 6, script{yields(9), yields(9), yields(9), yields(9)}, []int{1, 2, 3, 4}, []int{0, 1, 3, 2, 0, 1}},
		{"seeds", 3, []int{0, 0, 1, 0, 0, 7}, 6, script{yields(9), yields(9), yields(9), yields(9), yields(9)}, []int{1, 2, 3, 4, 5}, []int{0, 1, 2, 4, 1, 3}},
		{"time goes on", 2, nil, 4, script{asks(askN(api.ASleep, 2)), nil}, nil, []int{0, 0, 0, 0}},
		{"it ends early", 1, nil, 9, script{nil, nil}, nil, []int{0, 0}},
	} {
		e, s := &Engine{x.script}, plainSpec(0, 1, 2, 3, 4)
		s.Services = s.Services[:len(x.script)]
		w, err := Dispatch(e, s, x.workers, x.seeds, x.most)
		if err != api.OK || !slices.Equal(w.Picks(), x.picks) || !slices.Equal(w.Ready(), x.ready) {
			t.Errorf("%s: %v, %d", x.name, w.Picks(), err)
		}
	}
	for _, workers := range []int{0, -1, api.MaxWorkers + 1, math.MinInt, math.MaxInt} {
		if w, err := Dispatch(&Engine{script{nil}}, plainSpec(0), workers, nil, 5); w != nil || err != api.ErrArg {
			t.Errorf("Dispatch by %d workers = %v, %d", workers, w, err)
		}
	}
}

// dispatched makes a run by workers: it knows where a task stands by looking into all queues.
func dispatched(t *testing.T, w *World, workers int, seeds []int, most int) {
	t.Helper()
	pool, _ := steal.NewPool(workers)
	put := func(worker int) {
		for _, n := range w.Ready() {
			stands := false
			for other := 1; other <= workers; other++ {
				stands = stands || slices.Contains(pool.Queue(other), n)
			}
			if !stands {
				pool.Put(worker, n)
			}
		}
	}
	put(1)
	for k := 0; k < most; k++ {
		worker, seed := k%workers+1, 0
		if k < len(seeds) {
			seed = seeds[k]
		}
		pick := 0
		if n, _, ok := pool.Next(worker, seed); ok {
			if v, _ := w.Task(n); v.Phase != api.QReady {
				t.Fatalf("%d stands in a queue, and is not ready", n)
			}
			pick = slices.Index(w.Ready(), n)
		} else if len(w.Ready()) > 0 {
			t.Fatalf("%v are ready, and stand in no queue", w.Ready())
		}
		if w.Step(pick) != api.OK {
			return
		}
		put(worker)
	}
}

// TestP246Random checks that what Dispatch returns is the run with its picks, and that its workers do as they should.
func TestP246Random(t *testing.T) {
	t.Parallel()
	authors(t, 246, 100, func(a *author, source string) {
		_, e := engines(t, source)
		s := a.spec()
		workers, seeds, most := 1+a.r.IntN(8), a.picks(100), a.r.IntN(150)
		w, err := Dispatch(e, s, workers, seeds, most)
		if err != api.OK {
			t.Fatalf("%s: %d", source, err)
		}
		again, plain := newWorld(t, e, s), newWorld(t, e, s)
		if n := again.Run(w.Picks(), len(w.Picks())); n != len(w.Picks()) || stateOf(again) != stateOf(w) {
			t.Fatalf("%s: %d of %v; %s\n%s", source, n, w.Picks(), traceOf(w), traceOf(again))
		}
		dispatched(t, plain, workers, seeds, most)
		if stateOf(plain) != stateOf(w) {
			t.Fatalf("%s: %v, want %v", source, w.Picks(), plain.Picks())
		}
	})
}
