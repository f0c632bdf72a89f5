package together

import (
	"slices"
	"testing"

	"seedbed/api"
	"seedbed/audit"
	"seedbed/debugger"
	"seedbed/snapshot"
	"seedbed/syntax"
	worlds "seedbed/world"
)

// spoilt reports whether a task of a run has ended by an ask too many, or by an error of a layer.
func spoilt(w *worlds.World) bool {
	for n := 1; ; n++ {
		v, err := w.Task(n)
		if err != api.OK {
			return false
		}
		if v.Phase == api.QEnded && v.Fault.Kind == api.FThrow && (v.Fault.Text == "fuel" || v.Fault.Text == "bad" || v.Asks == api.MaxAsks) {
			return true
		}
	}
}

// TestP282Random checks that random programs are sound after every step, by the program and by one of its codes.
func TestP282Random(t *testing.T) {
	t.Parallel()
	steps, kinds := 0, map[int]int{}
	sound(t, 600, func(source string, p api.Program, m *maker, seed uint64) {
		e := worlds.Direct(p)
		if c, ok := compiled(t, source, p); ok && seed%2 == 0 {
			e = worlds.Compiled(c)
		}
		w, err := worlds.New(e, m.spec(p))
		if err != api.OK {
			t.Fatalf("%s: New: %d", source, err)
		}
		for range 60 {
			if w.Step(m.r.IntN(60)) != api.OK || spoilt(w) {
				break
			}
			steps++
			if !audit.Sound(w) {
				t.Fatalf("%s: not sound: %v; %v", source, audit.Check(w.Trace()), w.Trace())
			}
		}
		for _, e := range w.Trace() {
			kinds[e.Kind]++
		}
	})
	for kind := api.VStart; kind <= api.VLeft; kind++ {
		// These programs leave no resource behind, and seldom let time go on within a scope.
		if kinds[kind] < 8 && kind != api.VLeak && kind != api.VLate {
			t.Errorf("%d events of the kind %d", kinds[kind], kind)
		}
	}
	if steps < 4000 {
		t.Errorf("only %d steps", steps)
	}
}

// TestP272Random checks that sessions of random programs show the same by both engines, wherever they are.
func TestP272Random(t *testing.T) {
	t.Parallel()
	walked(t, 60, 40, func(source string, m *maker, list []*worlds.World) {
		w := list[0]
		p, _, _ := syntax.Parse(source)
		c, ok := compiled(t, source, p)
		if !ok {
			return
		}
		one, err := debugger.New(worlds.Direct(p), w.Spec(), w.Picks())
		other, err2 := debugger.New(worlds.Compiled(c), w.Spec(), w.Picks())
		if err != api.OK || err2 != api.OK || one.Len() != len(w.Picks()) || other.Len() != one.Len() {
			t.Fatalf("%s: %d, %d, Len = %d and %d, want %d", source, err, err2, one.Len(), other.Len(), len(w.Picks()))
		}
		for range 6 {
			at := m.r.IntN(one.Len() + 1)
			one.Go(at)
			other.Go(at)
			again, _ := worlds.New(worlds.Direct(p), w.Spec())
			again.Run(w.Picks(), at)
			for _, s := range []*debugger.Session{one, other} {
				if v := s.World(); !slices.Equal(v.Trace(), again.Trace()) || snapshot.State(v) != snapshot.State(again) {
					t.Fatalf("%s: the run at %d: %v, want %v", source, at, v.Trace(), again.Trace())
				}
			}
			b := api.Break{Kind: m.r.IntN(23), Task: m.r.IntN(3)}
			p, err := one.Find(b, at%2 == 0)
			if q, err2 := other.Find(b, at%2 == 0); p != q || err != err2 {
				t.Fatalf("%s: Find(%v) from %d = %d, %d and %d, %d", source, b, at, p, err, q, err2)
			}
		}
	})
}
