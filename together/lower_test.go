package together

import (
	"reflect"
	"testing"

	"seedbed/api"
	"seedbed/direct"
	"seedbed/kinds"
	"seedbed/lower"
	"seedbed/names"
	"seedbed/print"
	"seedbed/shape"
	"seedbed/syntax"
)

// lowered returns the lowered program; false: it would be too large.
func lowered(t *testing.T, source string, p api.Program) (api.Program, bool) {
	t.Helper()
	q, err := lower.Lower(p)
	if err != api.OK && err != api.ErrFull {
		t.Fatalf("Lower of %s: %d", source, err)
	}
	return q, err == api.OK
}

// more returns how many nodes the lowered program has more than a program, by what it contains.
func more(p api.Program) int {
	n := 0
	for _, f := range p.Funcs {
		if f.Flow {
			n += 3 // the try, the close and its channel
		}
		for s := range shape.Stmts(f.Body) {
			switch {
			case s.Op == api.SEach:
				n += 11
			case s.Op == api.SProduce, s.Op == api.STry && s.Flag == shape.HasCatch|shape.HasFinally:
				n++
			}
		}
	}
	return n
}

// TestP92Random checks that lowered programs are sound, low, as large as they should be, and their own lowered ones; and that low programs remain as they are.
func TestP92Random(t *testing.T) {
	t.Parallel()
	low, high, full := 0, 0, 0
	sound(t, 2000, func(source string, p api.Program, _ *maker, _ uint64) {
		before, _ := syntax.Nodes(p)
		q, ok := lowered(t, source, p)
		n, m, err := lower.Grown(p)
		if !ok {
			full++
			if n != 0 || m != 0 || err != api.ErrFull {
				t.Fatalf("Grown of %s = %d, %d, %d", source, n, m, err)
			}
			return
		}
		if n != before || m != before+more(p) || err != api.OK {
			t.Fatalf("Grown of %s = %d, %d, %d", source, n, m, err)
		}
		text, err := print.Short(q)
		if err != api.OK {
			t.Fatalf("Short of Lower of %s: %d", source, err)
		}
		if _, err := kinds.Check(q); err != api.OK {
			t.Fatalf("Check of %s, from %s: %d", text, source, err)
		}
		if is, err := lower.IsLow(q); !is || err != api.OK {
			t.Fatalf("IsLow of %s = %t, %d", text, is, err)
		}
		if again, err := lower.Lower(q); err != api.OK || !syntax.Same(again, q) {
			t.Fatalf("Lower of %s: %d, or it is changed", text, err)
		}
		is, err := lower.IsLow(p)
		if bare, _ := names.Strip(p); err != api.OK || is != syntax.Same(bare, q) || is != (more(p) == 0 && before == m) {
			t.Fatalf("IsLow of %s = %t, %d, it is lowered to %s", source, is, err, text)
		}
		if is {
			low++
		} else {
			high++
		}
	})
	if low < 200 || high < 400 || full > 200 {
		t.Errorf("%d low, %d high, %d too large", low, high, full)
	}
}

// TestP92Runs checks that coroutines of lowered programs have the same turns, whatever the replies are.
func TestP92Runs(t *testing.T) {
	t.Parallel()
	var p, q api.Program
	ok := false
	flows, rounds, tries := 0, 0, 0
	for name, makeWorld := range map[string]func(m *maker) world{
		"much goes wrong": rough, "little goes wrong": func(m *maker) world { return world{m.r, 30, 0} },
	} {
		runs(t, 400, makeWorld, func(x run) {
			if !syntax.Same(p, x.p) {
				p = x.p
				q, ok = lowered(t, x.source, p)
			}
			if !ok || x.fuel {
				return
			}
			got, err := direct.All(q, x.fn, x.args, x.answers)
			if err == api.ErrFuel {
				return
			}
			if err != api.OK || !reflect.DeepEqual(got, x.turns) {
				text, _ := print.Short(q)
				t.Fatalf("%s: %s, from %s: All(%d, %v, %v) = %v, %d, want %v", name, text, x.source, x.fn, x.args, x.answers, got, err, x.turns)
			}
			if p.Funcs[x.fn].Flow && x.isDone() {
				flows++
			}
			for s := range shape.Stmts(p.Funcs[x.fn].Body) {
				switch {
				case s.Op == api.SEach && len(x.turns) > 3:
					rounds++
				case s.Op == api.STry && s.Flag == shape.HasCatch|shape.HasFinally && len(x.turns) > 3:
					tries++
				}
			}
		})
	}
	if flows < 300 || rounds < 300 || tries < 300 {
		t.Errorf("only %d flows, %d runs of functions with an each, %d with a try that has both parts", flows, rounds, tries)
	}
}
