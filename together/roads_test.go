package together

import (
	"reflect"
	"testing"

	"seedbed/api"
	"seedbed/code"
	"seedbed/compile"
	"seedbed/kinds"
	"seedbed/lower"
	"seedbed/machine"
	"seedbed/pack"
	"seedbed/print"
	"seedbed/syntax"
	"seedbed/tidy"
)

// compiled returns the code of a program; false: it would be too large.
func compiled(t *testing.T, source string, p api.Program) (api.Code, bool) {
	t.Helper()
	c, err := compile.Compile(p)
	if err != api.OK && err != api.ErrFull {
		t.Fatalf("Compile of %s: %d", source, err)
	}
	if _, other := lower.Lower(p); err != other {
		t.Fatalf("Compile of %s: %d, Lower: %d", source, err, other)
	}
	return c, err == api.OK
}

// roads returns codes of a program that should all ask for the same as the program does.
func roads(t *testing.T, source string, p api.Program) map[string]api.Code {
	t.Helper()
	c, ok := compiled(t, source, p)
	if !ok {
		return nil
	}
	text, _ := print.Short(p)
	q, _, err := syntax.Parse(text)
	if err != api.OK {
		t.Fatalf("Parse of %s: %d", text, err)
	}
	if again, _ := compiled(t, source, q); !code.Same(again, c) {
		t.Fatalf("%s printed and read has another code", source)
	}
	low, _ := lowered(t, source, q)
	if again, _ := compiled(t, source, low); !code.Same(again, c) {
		t.Fatalf("%s lowered has another code", source)
	}
	short, err := tidy.Tidy(c)
	if err != api.OK {
		t.Fatalf("Tidy of %s: %d", textOf(c), err)
	}
	bytes, err := pack.Pack(short)
	if err != api.OK {
		t.Fatalf("Pack of %s: %d", textOf(short), err)
	}
	whole, err := pack.Unpack(bytes)
	if err != api.OK || !code.Same(whole, short) {
		t.Fatalf("Unpack of %s: %d", textOf(short), err)
	}
	return map[string]api.Code{"compiled": c, "and tidied, packed and unpacked": whole}
}

// wantRoads checks that coroutines of a program ask for the same by its codes, and returns how many of them run out of fuel there.
func wantRoads(t *testing.T, x run, codes map[string]api.Code) int {
	t.Helper()
	fuel := 0
	for name, c := range codes {
		got, err := machine.All(c, x.fn, x.args, x.answers)
		if err == api.ErrFuel {
			fuel++
			continue
		}
		if err != api.OK || !reflect.DeepEqual(got, x.turns) {
			t.Fatalf("%s, %s: %s: All(%d, %v, %v) = %v, %d, want %v", x.source, name, textOf(c), x.fn, x.args, x.answers, got, err, x.turns)
		}
	}
	return fuel
}

// TestP3Roads checks that a program, and the same printed and read, lowered, compiled, tidied, packed and unpacked, ask for the same (P11.2, P12.4, P13.4, P14.4).
func TestP3Roads(t *testing.T) {
	t.Parallel()
	var codes map[string]api.Code
	last, ran, fuel := "", 0, 0
	for _, makeWorld := range []func(m *maker) world{rough, func(m *maker) world { return world{m.r, 30, 0} }} {
		runs(t, 300, makeWorld, func(x run) {
			if x.source != last {
				last, codes = x.source, roads(t, x.source, x.p)
			}
			if !x.fuel {
				fuel += wantRoads(t, x, codes)
				ran += len(codes)
			}
		})
	}
	if ran < 3500 || fuel > 50 {
		t.Errorf("only %d coroutines, %d of them without fuel", ran, fuel)
	}
}

// TestP112Tails checks functions whose blocks are left in all ways.
func TestP112Tails(t *testing.T) {
	t.Parallel()
	ran, fuel := 0, 0
	for seed := range uint64(500) {
		m := newMaker(seed, -1)
		source := "fn main() { } fn f(c chan, a bool, b bool) int { while a || b || a == b " + m.inLoop(5) + " return 0; } fn flow0() flow { }"
		p, _, err := syntax.Parse(source)
		if err == api.ErrFull {
			continue
		}
		if _, other := kinds.Check(p); err != api.OK || other != api.OK {
			t.Fatalf("%s: %d, %d", source, err, other)
		}
		codes := roads(t, source, p)
		for range 4 {
			x := rough(m).execute(t, source, p, 1, 30)
			if !x.fuel {
				fuel += wantRoads(t, x, codes)
				ran += len(codes)
			}
		}
	}
	if ran < 2500 || fuel > 50 {
		t.Errorf("only %d coroutines, %d of them without fuel", ran, fuel)
	}
}

// inLoop is a tail in a loop.
func (m *maker) inLoop(depth int) string {
	m.loops++
	defer func() { m.loops-- }()
	return m.tail(depth)
}

// TestP124Compiled checks that no slot but the parameters is live before the place 0 of a compiled function, whether tidied or not.
func TestP124Compiled(t *testing.T) {
	t.Parallel()
	sound(t, 500, func(source string, p api.Program, m *maker, _ uint64) {
		for name, c := range roads(t, source, p) {
			for fn, f := range c.Funcs {
				lists, err := tidy.Live(c, fn)
				if err != api.OK {
					t.Fatalf("Live(%d) of %s: %d", fn, textOf(c), err)
				}
				for _, slot := range lists[0] {
					if slot >= f.Params {
						t.Fatalf("%s, %s: %s: the slot %d of the function %d is live at first", source, name, textOf(c), slot, fn)
					}
				}
			}
		}
	})
}

// TestP111Functions checks the functions of a code, and its errors.
func TestP111Functions(t *testing.T) {
	t.Parallel()
	sound(t, 500, func(source string, p api.Program, m *maker, _ uint64) {
		c, ok := compiled(t, source, p)
		if !ok {
			return
		}
		if err := code.Check(c); err != api.OK || len(c.Funcs) != len(p.Funcs) {
			t.Fatalf("%s: %s: %d", source, textOf(c), err)
		}
		for i, f := range p.Funcs {
			params := len(f.Params)
			if f.Flow {
				params++
			}
			if c.Funcs[i].Name != f.Name || c.Funcs[i].Params != params {
				t.Fatalf("%s: %s: the function %d", source, textOf(c), i)
			}
		}
	})
}
