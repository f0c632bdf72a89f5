package together

import (
	"testing"

	"seedbed/api"
	"seedbed/kinds"
	"seedbed/names"
	"seedbed/syntax"
)

// sound calls visit with random sound programs, and with their makers' seeds.
func sound(t *testing.T, seeds uint64, visit func(source string, p api.Program, m *maker, seed uint64)) {
	t.Helper()
	made := uint64(0)
	for seed := range seeds {
		m := newMaker(seed, -1)
		source := m.program()
		p, _, err := syntax.Parse(source)
		if err == api.ErrFull {
			continue
		}
		if err != api.OK {
			t.Fatalf("Parse(%q): %d", source, err)
		}
		made++
		visit(source, p, m, seed)
	}
	if made < seeds/2 {
		t.Errorf("only %d programs", made)
	}
}

// TestP51Random checks that sound programs are sound, and that one expression of another kind makes them ErrKind.
func TestP51Random(t *testing.T) {
	t.Parallel()
	sound(t, 2000, func(source string, p api.Program, m *maker, seed uint64) {
		q, err := kinds.Check(p)
		if want, _ := names.Resolve(p); err != api.OK || !syntax.Same(q, want) {
			t.Fatalf("Check of %s: %d", source, err)
		}
		if m.wanted == 0 {
			return
		}
		wrong := newMaker(seed, m.r.IntN(m.wanted)).program()
		if p, _, err := syntax.Parse(wrong); err == api.OK {
			if _, err := kinds.Check(p); err != api.ErrKind {
				t.Fatalf("Check of %s: %d", wrong, err)
			}
		}
	})
}

// TestP53Random checks that sound programs remain sound if variables are renamed, and functions exchanged.
func TestP53Random(t *testing.T) {
	t.Parallel()
	sound(t, 500, func(source string, p api.Program, m *maker, _ uint64) {
		fn := m.r.IntN(len(p.Funcs))
		vars, _ := names.Vars(p, fn)
		if len(vars) > 0 {
			q, err := names.Rename(p, fn, pick(m, vars), "new0")
			if _, other := kinds.Check(q); err != api.OK || other != api.OK {
				t.Fatalf("Check of %s renamed: %d, %d", source, err, other)
			}
		}
		if len(p.Funcs) < 3 {
			return
		}
		q, _ := syntax.Clone(p)
		i, j := 1+m.r.IntN(len(p.Funcs)-1), 1+m.r.IntN(len(p.Funcs)-1)
		q.Funcs[i], q.Funcs[j] = q.Funcs[j], q.Funcs[i]
		if _, err := kinds.Check(q); err != api.OK {
			t.Fatalf("Check of %s with %d and %d exchanged: %d", source, i, j, err)
		}
	})
}

// TestP51Tails checks that no function with a result that Check takes ends without one.
func TestP51Tails(t *testing.T) {
	t.Parallel()
	results := map[api.Errno]int{}
	for seed := range uint64(2000) {
		m := newMaker(seed, -1)
		source := "fn main() { } fn f(c chan, a bool, b bool) int " + m.tail(1+m.r.IntN(4)) + " fn flow0() flow { }"
		p, _, err := syntax.Parse(source)
		if err != api.OK {
			t.Fatalf("Parse(%q): %d", source, err)
		}
		_, err = kinds.Check(p)
		results[err]++
		for range 3 {
			if err != api.OK {
				break
			}
			x := rough(m).execute(t, source, p, 1, 10)
			if x.isDone() && x.last().Fault == (api.Fault{}) && x.last().V.Kind != api.KInt {
				t.Fatalf("%s with %v after %v ends with %v", source, x.args, x.answers, x.last())
			}
		}
	}
	if results[api.OK] < 500 || results[api.ErrEnd] < 500 || results[api.OK]+results[api.ErrEnd] < 1950 {
		t.Errorf("results %v", results)
	}
}
