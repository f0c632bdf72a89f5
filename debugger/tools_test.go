package debugger

import (
	"math/rand/v2"
	"reflect"
	"slices"
	"testing"

	"seedbed/api"
	"seedbed/compile"
	"seedbed/snapshot"
	"seedbed/syntax"
	"seedbed/world"
)

// services is a specification of functions without arguments, which are not started again.
func services(fns ...int) api.Spec {
	s := api.Spec{Rule: api.ROne, Within: 1}
	for _, fn := range fns {
		s.Services = append(s.Services, api.Service{Fn: fn, When: api.WNever})
	}
	return s
}

// engines returns both engines of a source.
func engines(t *testing.T, source string) [2]*world.Engine {
	t.Helper()
	p, at, err := syntax.Parse(source)
	if err != api.OK {
		t.Fatalf("%s: error %d at %d", source, err, at)
	}
	c, err := compile.Compile(p)
	if err != api.OK {
		t.Fatalf("%s: error %d", source, err)
	}
	return [2]*world.Engine{world.Direct(p), world.Compiled(c)}
}

func newSession(t *testing.T, e *world.Engine, s api.Spec, picks []int) *Session {
	t.Helper()
	x, err := New(e, s, picks)
	if x == nil || err != api.OK {
		t.Fatalf("New = %v, %d", x, err)
	}
	return x
}

// session is a session of a source whose main is alone.
func session(t *testing.T, source string, picks ...int) *Session {
	t.Helper()
	return newSession(t, engines(t, source)[1], services(0), picks)
}

// runOf is a new run by picks.
func runOf(t *testing.T, e *world.Engine, s api.Spec, picks []int) *world.World {
	t.Helper()
	w, err := world.New(e, s)
	if err != api.OK {
		t.Fatalf("New: %d", err)
	}
	for _, pick := range picks {
		w.Step(pick)
	}
	return w
}

// wantSame checks that two runs are the same as far as one can see.
func wantSame(t *testing.T, w, v *world.World) {
	t.Helper()
	if !slices.Equal(w.Trace(), v.Trace()) || !slices.Equal(w.Picks(), v.Picks()) || snapshot.State(w) != snapshot.State(v) || !reflect.DeepEqual(w.Spec(), v.Spec()) {
		t.Fatalf("%s\n%v\nand %s\n%v", snapshot.State(w), w.Trace(), snapshot.State(v), v.Trace())
	}
	for n := range api.MaxTasks {
		if !slices.Equal(w.Answers(n), v.Answers(n)) {
			t.Fatalf("the task %d: %v, %v", n, w.Answers(n), v.Answers(n))
		}
	}
}

// wantAt checks where a session is, and that it shows that.
func wantAt(t *testing.T, s *Session, p int) {
	t.Helper()
	if s.At() != p || len(s.World().Picks()) != p {
		t.Errorf("At = %d, and the run has made %d steps, want %d", s.At(), len(s.World().Picks()), p)
	}
}

func wantGo(t *testing.T, s *Session, p int) {
	t.Helper()
	if err := s.Go(p); err != api.OK {
		t.Fatalf("Go(%d) = %d", p, err)
	}
	wantAt(t, s, p)
}

// plays are sources of main and other functions without parameters, whose tasks wait for each other in all ways.
func plays() []string {
	return []string{
		`fn main() { let l = lock 1; let m = lock 2; scope { spawn a(l, m); spawn a(m, l); let t = spawn a(l, l); yield; cancel t; } } fn a(l lock, m lock) { use r = 4 { hold l { yield; hold m { emit 1; yield; } } } }`,
		`fn main() { let l = lock 1; let c = chan 0; scope { let t = spawn a(l, c); let u = spawn a(l, c); spawn b(t, l); spawn b(u, l); spawn b(t, l); hold l { yield; await u; } } } fn a(l lock, c chan) int { yield; hold l { send c, 1; } return 3; } fn b(t task, l lock) { hold l { yield; let x = await t; emit x; } }`,
		`fn main() { scope supervised { spawn a(3); scope within 5 { spawn a(2); sleep 1; emit "x"; } } try { scope { spawn a(1); yield; throw "y"; } } catch e { emit e; } } fn a(n int) { scope { if n > 0 { let t = spawn a(n - 1); spawn w(t); } sleep 3 - n; } } fn w(t task) { let x = await t; emit x; }`,
		`fn main() { each x from g(9) buffer 1 { emit x; yield; } sleep 1; throw "end"; } fn b() { let c = chan 1; scope { spawn f(c); spawn f(c); shield { yield; } } } fn f(c chan) { send c, 1; } fn g(n int) flow { let i = 0; while i < n { produce i; i = i + 1; } }`,
	}
}

// visit visits random sessions of all plays, by both engines.
func visit(t *testing.T, salt uint64, rounds, most int, with func(r *rand.Rand, e *world.Engine, s api.Spec, picks []int)) {
	t.Helper()
	for i, source := range plays() {
		both := engines(t, source)
		for round := range rounds {
			r := rand.New(rand.NewPCG(salt, uint64(round*10+i)))
			s := services(slices.Repeat([]int{0}, 1+r.IntN(2))...)
			s.Services[0].When, s.Most, s.Within = 1+r.IntN(3), r.IntN(3), 4
			var picks []int
			for range most - r.IntN(most/2) {
				picks = append(picks, r.IntN(60)-20)
			}
			with(r, both[round%2], s, picks)
		}
	}
}
