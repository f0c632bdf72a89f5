package together

import (
	"testing"

	"seedbed/api"
	"seedbed/colour"
	"seedbed/kinds"
)

// walks executes each function of random sound programs several times. It calls look with each program, and what that returns with each walk, and with how it ended, if it did.
func walks(t *testing.T, throws bool, look func(source string, p api.Program) func(fn int, w *walker, end ending, done bool)) {
	t.Helper()
	finished := 0
	sound(t, 1500, func(source string, p api.Program, m *maker, _ uint64) {
		q, err := kinds.Check(p)
		if err != api.OK {
			t.Fatalf("Check of %s: %d", source, err)
		}
		visit := look(source, q)
		for at := range 8 * len(q.Funcs) {
			fn, w := at/8, newWalker(q, m.r, throws)
			end, done := w.walk(fn)
			if w.complaint != "" {
				t.Fatalf("%s: function %d: %s", source, fn, w.complaint)
			}
			if done {
				finished++
			}
			visit(fn, w, end, done)
		}
	})
	if finished < 10000 {
		t.Errorf("only %d walks end", finished)
	}
}

// TestP53Walks checks that a sound program never asks for a value of a wrong kind, uses no variable before it is made, and that functions return what they should.
func TestP53Walks(t *testing.T) {
	seen := map[int]bool{}
	walks(t, true, func(string, api.Program) func(int, *walker, ending, bool) {
		return func(_ int, w *walker, _ ending, _ bool) {
			for ask := range w.asks {
				seen[ask] = true
			}
		}
	})
	for ask := api.AYield; ask <= api.ARelease; ask++ {
		if !seen[ask] {
			t.Errorf("nothing asks for %d", ask)
		}
	}
}

// did is what a walk did, as a colour.
func did(w *walker, end ending, done bool) int {
	sum := 0
	for ask := range w.asks {
		sum |= 1
		switch {
		case isPoint(ask) || ask == api.ALeave:
			sum |= 2
		case ask == api.ASpawn:
			sum |= 8
		}
	}
	if done && end.way == raises && end.fault == api.FThrow {
		sum |= 4
	}
	return sum
}

// TestP63Walks checks that functions ask, wait, throw and make tasks only if their colours say so, as long as no reply has an FThrow.
func TestP63Walks(t *testing.T) {
	still, calm := 0, 0
	walks(t, false, func(source string, p api.Program) func(int, *walker, ending, bool) {
		colours, err := colour.Colours(p)
		if err != api.OK {
			t.Fatalf("Colours of %s: %d", source, err)
		}
		for fn := range colours {
			if quiet, err := colour.Quiet(p, fn); quiet != (colours[fn]&1 == 0) || err != api.OK {
				t.Fatalf("%s: Quiet(%d) = %t, %d", source, fn, quiet, err)
			}
		}
		return func(fn int, w *walker, end ending, done bool) {
			if got := did(w, end, done); got&^colours[fn] != 0 {
				t.Fatalf("%s: function %d does %d, its colour is %d", source, fn, got, colours[fn])
			}
			if colours[fn]&1 == 0 {
				still++
			}
			if colours[fn]&4 == 0 {
				calm++
			}
		}
	})
	if still < 1000 || calm < 1000 {
		t.Errorf("only %d walks of quiet functions, %d of such as throw nothing", still, calm)
	}
}
