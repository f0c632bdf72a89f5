package together

import (
	"slices"
	"testing"

	"seedbed/api"
	"seedbed/snapshot"
	"seedbed/trace"
	worlds "seedbed/world"
)

// spec makes a specification of main and some other functions of a program that are no flows.
func (m *maker) spec(p api.Program) api.Spec {
	s := api.Spec{Rule: 1 + m.r.IntN(3), Most: m.r.IntN(3), Within: 1 + m.r.IntN(9), Base: m.r.IntN(3), Cap: 2 + m.r.IntN(5)}
	for fn, f := range p.Funcs {
		if f.Name == "main" || !f.Flow && m.chance(2) && len(s.Services) < 3 {
			s.Services = append(s.Services, api.Service{Fn: fn, Args: argsOf(m.r, f), When: 1 + m.r.IntN(3)})
		}
	}
	return s
}

// starved reports whether a task of a run has ended because it made too many steps.
func starved(w *worlds.World) bool {
	return slices.ContainsFunc(w.Trace(), func(e api.Event) bool {
		return e.Kind == api.VEnd && e.Fault == api.Fault{Kind: api.FThrow, Text: "fuel"}
	})
}

// walked visits runs of random programs by all roads, each with the numbers by which it was stepped.
func walked(t *testing.T, seeds uint64, most int, visit func(source string, m *maker, list []*worlds.World)) {
	t.Helper()
	visited := 0
	sound(t, seeds, func(source string, p api.Program, m *maker, _ uint64) {
		engines := []*worlds.Engine{worlds.Direct(p)}
		for _, c := range roads(t, source, p) {
			engines = append(engines, worlds.Compiled(c))
		}
		s := m.spec(p)
		var list []*worlds.World
		for _, e := range engines {
			w, err := worlds.New(e, s)
			if err != api.OK {
				t.Fatalf("%s: New(%v): %d", source, s, err)
			}
			list = append(list, w)
		}
		for range most {
			pick := m.r.IntN(60)
			for _, w := range list {
				w.Step(pick)
			}
		}
		if !slices.ContainsFunc(list, starved) {
			visited++
			visit(source, m, list)
		}
	})
	if visited < int(seeds)/2 {
		t.Errorf("only %d runs", visited)
	}
}

// TestP263Random checks that random programs have the same snapshots by all roads.
func TestP263Random(t *testing.T) {
	t.Parallel()
	long := 0
	walked(t, 250, 25, func(source string, _ *maker, list []*worlds.World) {
		want, err := snapshot.Text(list[0])
		if err != api.OK {
			t.Fatalf("%s: %d", source, err)
		}
		for _, w := range list[1:] {
			if s, err := snapshot.Text(w); s != want || err != api.OK {
				t.Fatalf("%s: %d: %s\nwant %s", source, err, s, want)
			}
		}
		if len(want) > 300 {
			long++
		}
	})
	if long < 50 {
		t.Errorf("only %d long snapshots", long)
	}
}

// TestP252Worlds checks that the traces of random programs are valid and are read back, and P25.3 to P25.5 for exchanges in them.
func TestP252Worlds(t *testing.T) {
	t.Parallel()
	exchanges := 0
	walked(t, 250, 25, func(source string, m *maker, list []*worlds.World) {
		l := list[0].Trace()
		text, err := trace.Text(l)
		if err != api.OK {
			t.Fatalf("%s: Text(%v): %d", source, l, err)
		}
		if back, err := trace.Parse(text); !slices.Equal(back, l) || err != api.OK {
			t.Fatalf("%s: Parse(%s) = %v, %d", source, text, back, err)
		}
		l = l[:min(len(l), api.MaxFoata)]
		other := slices.Clone(l)
		for range 10 * len(l) {
			if i := m.r.IntN(len(l)); i > 0 && !trace.Dependent(other[i-1], other[i]) {
				other[i-1], other[i] = other[i], other[i-1]
				exchanges++
			}
		}
		form, err := trace.Foata(l)
		flat := slices.Concat(form...)
		if err != api.OK || !trace.Same(l, other) || !trace.Same(other, flat) {
			t.Fatalf("%s: %v, %v and %v: %d", source, l, other, flat, err)
		}
		for task := range api.MaxTasks + 1 {
			if of := trace.Of(l, task); !slices.Equal(of, trace.Of(other, task)) || !slices.Equal(of, trace.Of(flat, task)) {
				t.Fatalf("%s: %v of %d", source, of, task)
			}
		}
	})
	if exchanges < 300 {
		t.Errorf("only %d exchanges", exchanges)
	}
}
