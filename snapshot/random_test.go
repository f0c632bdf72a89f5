package snapshot

import (
	"math/rand/v2"
	"reflect"
	"slices"
	"testing"

	"seedbed/api"
	"seedbed/world"
)

// TestP261Random holds snapshots of random runs against a second writer, after every step.
func TestP261Random(t *testing.T) {
	t.Parallel()
	statuses := map[int]int{}
	runs(t, 261, 30, func(r *rand.Rand, _, _ *world.Engine, w *world.World) {
		for range 60 {
			if s, want := textOf(t, w), shotOf(w); s != want {
				t.Fatalf("Text = %s\nwant %s", s, want)
			}
			w.Step(r.IntN(50) - 10)
		}
		statuses[w.Status()]++
	})
	for status := api.UnderWay; status <= api.Stuck; status++ {
		if statuses[status] == 0 {
			t.Errorf("no run has the status %d", status)
		}
	}
}

// wantSame checks that two runs are the same as far as one can see.
func wantSame(t *testing.T, w, v *world.World) {
	t.Helper()
	if !slices.Equal(w.Trace(), v.Trace()) || shotOf(w) != shotOf(v) || !slices.Equal(w.Ready(), v.Ready()) || !slices.Equal(w.Stuck(), v.Stuck()) {
		t.Fatalf("%s\n%s\n%v\n%v", shotOf(w), shotOf(v), w.Trace(), v.Trace())
	}
	for n := range api.MaxTasks {
		one, _ := w.Chain(n)
		other, _ := v.Chain(n)
		if !slices.Equal(w.Answers(n), v.Answers(n)) || !reflect.DeepEqual(one, other) || w.Pending(n) != v.Pending(n) {
			t.Fatalf("the task %d: %v, %v", n, w.Answers(n), v.Answers(n))
		}
	}
}

// TestP262Back checks that a run that is read has the same trace, and goes on in the same way.
func TestP262Back(t *testing.T) {
	t.Parallel()
	runs(t, 262, 30, func(r *rand.Rand, e, _ *world.Engine, w *world.World) {
		for range r.IntN(80) {
			w.Step(r.IntN(50) - 10)
		}
		v, err := Read(e, textOf(t, w))
		if err != api.OK {
			t.Fatalf("Read: %d", err)
		}
		wantSame(t, w, v)
		for range 60 {
			pick := r.IntN(50) - 10
			if one, other := w.Step(pick), v.Step(pick); one != other {
				t.Fatalf("Step(%d) = %d and %d", pick, one, other)
			}
		}
		wantSame(t, w, v)
	})
}

// TestP263Roads checks that both engines have the same snapshots.
func TestP263Roads(t *testing.T) {
	t.Parallel()
	runs(t, 263, 20, func(r *rand.Rand, _, other *world.Engine, w *world.World) {
		v := newWorld(t, other, w.Spec())
		for range 60 {
			if s, want := textOf(t, v), textOf(t, w); s != want {
				t.Fatalf("Text = %s\nand %s", s, want)
			}
			pick := r.IntN(50)
			w.Step(pick)
			v.Step(pick)
		}
		if x, err := Read(other, textOf(t, w)); err != api.OK || textOf(t, x) != textOf(t, w) {
			t.Fatalf("Read by the other engine: %d", err)
		}
	})
}

// TestP264Changes checks strings in which one byte was changed, removed or put in.
func TestP264Changes(t *testing.T) {
	t.Parallel()
	taken, errs := 0, map[api.Errno]int{}
	check := func(e *world.Engine, s string) {
		w, err := Read(e, s)
		if err != api.OK {
			errs[err]++
			if w != nil {
				t.Fatalf("%q: a run with the error %d", s, err)
			}
			return
		}
		taken++
		if got := textOf(t, w); got != s {
			t.Fatalf("%q is read, but the snapshot is %q", s, got)
		}
	}
	runs(t, 264, 2, func(r *rand.Rand, e, _ *world.Engine, w *world.World) {
		w.Run([]int{r.IntN(9), r.IntN(9), r.IntN(9)}, r.IntN(10))
		s := textOf(t, w)
		const bytes = "0123456789 \n-:\"\\act_\x00\xff"
		for at := range len(s) {
			b := bytes[r.IntN(len(bytes)):][:1]
			other := []string{s[:at] + s[at+1:], s[:at] + b + s[at:], s[:at] + b + s[at+1:]}[r.IntN(3)]
			if other != s {
				check(e, other)
			}
		}
	})
	if taken < 3 || errs[api.ErrSyntax] < 100 || errs[api.ErrAnswer] < 100 || len(errs) != 2 {
		t.Errorf("%d are taken; errors %v", taken, errs)
	}
}

// TestP261Memory checks that Text, State and Read change nothing, and that what Parse returns is new.
func TestP261Memory(t *testing.T) {
	runs(t, 266, 4, func(r *rand.Rand, e, _ *world.Engine, w *world.World) {
		w.Run(nil, r.IntN(20))
		before := w.Copy()
		s := textOf(t, w)
		one, picks, _ := Parse(s)
		for _, service := range one.Services {
			clear(service.Args)
		}
		clear(one.Services)
		clear(picks)
		v, _ := Read(e, s)
		v.Run(nil, 50)
		if textOf(t, w) != s || State(w) != State(before) {
			t.Fatal("a run is changed")
		}
		wantSame(t, w, before)
	})
}
