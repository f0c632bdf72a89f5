package together

import (
	"reflect"
	"slices"
	"testing"

	"seedbed/api"
	"seedbed/code"
	"seedbed/eval"
	"seedbed/machine"
	"seedbed/tidy"
)

// passes are the functions that return equivalent codes.
func passes() map[string]func(api.Code) (api.Code, api.Errno) {
	return map[string]func(api.Code) (api.Code, api.Errno){"Tidy": tidy.Tidy, "Prune": tidy.Prune, "Thread": tidy.Thread, "Fold": tidy.Fold, "Spare": tidy.Spare}
}

// passed returns what a pass makes of a code, and checks that it is valid and has the same functions.
func passed(t *testing.T, name string, c api.Code) api.Code {
	t.Helper()
	d, err := passes()[name](c)
	if err != api.OK || code.Check(d) != api.OK || len(c.Funcs) != len(d.Funcs) {
		t.Fatalf("%s of %s: %d, or it is not valid", name, textOf(c), err)
	}
	for i, f := range c.Funcs {
		if d.Funcs[i].Name != f.Name || d.Funcs[i].Params != f.Params {
			t.Fatalf("%s of %s has another function %d", name, textOf(c), i)
		}
	}
	return d
}

// TestP124Walks checks that what the passes return asks for the same.
func TestP124Walks(t *testing.T) {
	t.Parallel()
	walks(t, 700, func(k *coder, c api.Code, x walk) {
		for name := range passes() {
			d := passed(t, name, c)
			got, err := machine.All(d, x.fn, x.args, x.answers)
			if err != api.OK || !reflect.DeepEqual(got, x.turns) {
				t.Fatalf("%s of %sis %s%d with %v after %v: %v, %d, want %v", name, textOf(c), textOf(d), x.fn, x.args, x.answers, got, err, x.turns)
			}
		}
	})
}

// jumpsOf returns the places to which an instruction leads by itself.
func jumpsOf(in api.Instr) []int {
	switch in.Op {
	case api.IJump:
		return []int{in.A}
	case api.IFalse, api.IFault:
		return []int{in.B}
	case api.ISwitch:
		return in.L
	}
	return nil
}

// isRing reports whether a jump leads to itself.
func isRing(f api.FnCode, at int) bool {
	next := f.Code[at].A
	for range f.Code {
		if next == at {
			return true
		}
		if f.Code[next].Op != api.IJump {
			return false
		}
		next = f.Code[next].A
	}
	return false
}

func canRaise(in api.Instr) bool {
	return slices.Contains([]int{api.IUnary, api.IBinary, api.IFalse, api.ICall, api.IThrow, api.IAsk, api.ISwitch, api.IRaise}, in.Op)
}

// tidyFunc is what the chapter says of tidy codes.
func tidyFunc(c api.Code, fn int) bool {
	f := c.Funcs[fn]
	reached, _ := code.Reached(c, fn)
	if len(reached) < len(f.Code) {
		return false
	}
	for at, in := range f.Code {
		if in.Op == api.IMove && in.A == in.B {
			return false
		}
		if in.Op == api.IJump && (in.A == at+1 || f.Code[in.A].Op == api.IJump && !isRing(f, in.A)) {
			return false
		}
	}
	for _, g := range f.Guards {
		if !slices.ContainsFunc(f.Code[g.From:g.To], canRaise) {
			return false
		}
	}
	return true
}

// TestP121Random checks that Tidy returns tidy codes that are not larger, and that they remain as large; and that IsTidy tells tidy ones from others.
func TestP121Random(t *testing.T) {
	t.Parallel()
	tidied, shorter := 0, 0
	codes(t, 4000, func(k *coder, c api.Code) {
		d := passed(t, "Tidy", c)
		again := passed(t, "Tidy", d)
		want := true
		for i, f := range d.Funcs {
			want = want && tidyFunc(c, i)
			if !tidyFunc(d, i) || !tidyFunc(again, i) || len(f.Code) > len(c.Funcs[i].Code) || f.Slots > c.Funcs[i].Slots || len(again.Funcs[i].Code) != len(f.Code) || again.Funcs[i].Slots > f.Slots {
				t.Fatalf("Tidy of %sis %s, of that %s", textOf(c), textOf(d), textOf(again))
			}
			if len(f.Code) < len(c.Funcs[i].Code) {
				shorter++
			}
		}
		is, err := tidy.IsTidy(c)
		if after, other := tidy.IsTidy(d); is != want || !after || err != api.OK || other != api.OK {
			t.Fatalf("IsTidy of %s = %t, %d, of %s = %t, %d", textOf(c), is, err, textOf(d), after, other)
		}
		if is {
			tidied++
		}
	})
	if tidied < 100 || shorter < 2000 {
		t.Errorf("%d were tidy, %d functions are shorter then", tidied, shorter)
	}
}

// TestP122Prune checks that the instructions that can be reached are left in their order, and no others.
func TestP122Prune(t *testing.T) {
	t.Parallel()
	codes(t, 2000, func(k *coder, c api.Code) {
		d := passed(t, "Prune", c)
		for i, f := range d.Funcs {
			left, _ := code.Reached(c, i)
			reached, _ := code.Reached(d, i)
			if len(f.Code) != len(left) || len(reached) != len(left) {
				t.Fatalf("Prune of %sis %s", textOf(c), textOf(d))
			}
			for at, in := range f.Code {
				was := c.Funcs[i].Code[left[at]]
				was.L = slices.Clone(was.L)
				for _, field := range map[int][]*int{api.IJump: {&was.A}, api.IFalse: {&was.B}, api.IFault: {&was.B}}[was.Op] {
					*field = slices.Index(left, *field)
				}
				for j := range was.L {
					if was.Op == api.ISwitch {
						was.L[j] = slices.Index(left, was.L[j])
					}
				}
				if !slices.Equal(in.L, was.L) || in.Op != was.Op || in.A != was.A || in.B != was.B || in.C != was.C || in.V != was.V {
					t.Fatalf("Prune of %sis %sat %d is %v", textOf(c), textOf(d), at, in)
				}
			}
		}
	})
}

// TestP122Thread checks that nothing leads to a jump that leads elsewhere.
func TestP122Thread(t *testing.T) {
	t.Parallel()
	rings := 0
	codes(t, 4000, func(k *coder, c api.Code) {
		d := passed(t, "Thread", c)
		for i, f := range d.Funcs {
			for at, in := range f.Code {
				was := c.Funcs[i].Code[at]
				if was.Op != in.Op || len(f.Code) != len(c.Funcs[i].Code) {
					t.Fatalf("Thread of %sis %s", textOf(c), textOf(d))
				}
				for _, to := range jumpsOf(in) {
					if f.Code[to].Op != api.IJump {
						continue
					}
					rings++
					if !isRing(f, to) {
						t.Fatalf("Thread of %sis %swhere %d leads to a jump", textOf(c), textOf(d), at)
					}
				}
			}
		}
	})
	if rings < 100 {
		t.Errorf("only %d lead to rings", rings)
	}
}

// constantAt returns the constant in a slot before a place, as the chapter says it; false: there is none.
func constantAt(f api.FnCode, at, slot int) (api.Value, bool) {
	for ; at > 0; at-- {
		for _, in := range f.Code {
			if slices.Contains(jumpsOf(in), at) {
				return api.Value{}, false
			}
		}
		if slices.ContainsFunc(f.Guards, func(g api.Guard) bool { return g.At == at }) {
			return api.Value{}, false
		}
		if in := f.Code[at-1]; slices.Contains(setBy(in), slot) {
			return in.V, in.Op == api.IConst
		}
	}
	return api.Value{}, false
}

// setBy returns the slots that an instruction sets (-1: none).
func setBy(in api.Instr) []int {
	switch in.Op {
	case api.IConst, api.IMove, api.IUnary, api.IBinary, api.ICall:
		return []int{in.A}
	case api.IAsk:
		if in.B == api.ASelect {
			return []int{in.A, in.L[0]}
		}
		return []int{in.A}
	}
	return nil
}

// usedBy returns the slots whose values an instruction uses.
func usedBy(f api.FnCode, at int) []int {
	in := f.Code[at]
	switch in.Op {
	case api.IMove:
		return []int{in.B}
	case api.IUnary:
		return []int{in.C}
	case api.IBinary:
		return []int{in.C, in.L[0]}
	case api.IFalse, api.IReturn, api.IThrow, api.ISwitch, api.IFault:
		return []int{in.A}
	case api.IRaise:
		return []int{in.A, in.A + 1}
	case api.ICall, api.IArm:
		return in.L
	case api.IAsk:
		if in.B == api.ALeave && len(in.L) == 1 {
			return []int{in.L[0], in.L[0] + 1}
		}
		if in.B != api.ASelect {
			return in.L
		}
		var list []int
		for n := at - 1; n >= 0 && f.Code[n].Op == api.IArm; n-- {
			list = append(list, f.Code[n].L...)
		}
		return list
	}
	return nil
}

// TestP122Fold checks that operators of constants without a fault are computed, and that nothing else is changed.
func TestP122Fold(t *testing.T) {
	t.Parallel()
	folded, faults := 0, 0
	codes(t, 8000, func(k *coder, c api.Code) {
		d := passed(t, "Fold", c)
		for i, f := range d.Funcs {
			was := c.Funcs[i]
			if len(f.Code) != len(was.Code) || f.Slots != was.Slots || !slices.Equal(f.Guards, was.Guards) {
				t.Fatalf("Fold of %sis %s", textOf(c), textOf(d))
			}
			for at, in := range f.Code {
				if in.Op == api.IConst && was.Code[at].Op != api.IConst {
					folded++
				} else if !reflect.DeepEqual(in.L, was.Code[at].L) && len(in.L)+len(was.Code[at].L) > 0 || in.Op != was.Code[at].Op {
					t.Fatalf("Fold of %sis %s", textOf(c), textOf(d))
				}
				if in.Op != api.IUnary && in.Op != api.IBinary {
					continue
				}
				left, ok := constantAt(f, at, in.C)
				_, fault, _ := eval.Unary(in.B, left)
				if in.Op == api.IBinary && ok {
					var right api.Value
					right, ok = constantAt(f, at, in.L[0])
					_, fault, _ = eval.Binary(in.B, left, right)
				}
				if ok && fault == (api.Fault{}) {
					t.Fatalf("Fold of %sis %swith constants at %d", textOf(c), textOf(d), at)
				}
				if ok {
					faults++
				}
			}
		}
	})
	if folded < 100 || faults < 100 {
		t.Errorf("only %d are computed, %d have faults", folded, faults)
	}
}

// TestP122Spare checks that no slot is left that is nowhere.
func TestP122Spare(t *testing.T) {
	t.Parallel()
	less := 0
	codes(t, 2000, func(k *coder, c api.Code) {
		d := passed(t, "Spare", c)
		for i, f := range d.Funcs {
			used := map[int]bool{}
			for slot := range f.Params {
				used[slot] = true
			}
			for at, in := range f.Code {
				for _, slot := range append(append(usedBy(f, at), setBy(in)...), -1) {
					used[slot] = true
				}
			}
			for _, g := range f.Guards {
				used[g.Slot], used[g.Slot+1] = true, true
			}
			delete(used, -1)
			if len(used) != f.Slots || f.Slots > c.Funcs[i].Slots || len(f.Code) != len(c.Funcs[i].Code) {
				t.Fatalf("Spare of %sis %s", textOf(c), textOf(d))
			}
			if f.Slots < c.Funcs[i].Slots {
				less++
			}
		}
	})
	if less < 100 {
		t.Errorf("only %d have less slots", less)
	}
}

// isLive reports whether some way from a place on uses a slot before it sets it.
func isLive(f api.FnCode, at, slot int, seen map[int]bool) bool {
	if seen[at] {
		return false
	}
	seen[at] = true
	in := f.Code[at]
	if slices.Contains(usedBy(f, at), slot) {
		return true
	}
	guard := slices.IndexFunc(f.Guards, func(g api.Guard) bool { return g.From <= at && at < g.To })
	if canRaise(in) && guard >= 0 {
		g := f.Guards[guard]
		if g.Slot != slot && g.Slot+1 != slot && isLive(f, g.At, slot, seen) {
			return true
		}
	}
	if slices.Contains(setBy(in), slot) {
		return false
	}
	next := jumpsOf(in)
	if !slices.Contains([]int{api.IJump, api.IReturn, api.IThrow, api.ISwitch, api.IRaise}, in.Op) {
		next = append(slices.Clone(next), at+1)
	}
	return slices.ContainsFunc(next, func(to int) bool { return isLive(f, to, slot, seen) })
}

// TestP123Random checks the live slots before all places.
func TestP123Random(t *testing.T) {
	t.Parallel()
	codes(t, 2000, func(k *coder, c api.Code) {
		for fn, f := range c.Funcs {
			got, err := tidy.Live(c, fn)
			if err != api.OK || len(got) != len(f.Code) {
				t.Fatalf("Live(%d) of %s = %v, %d", fn, textOf(c), got, err)
			}
			for at := range f.Code {
				var want []int
				for slot := range f.Slots {
					if isLive(f, at, slot, map[int]bool{}) {
						want = append(want, slot)
					}
				}
				if !slices.Equal(got[at], want) {
					t.Fatalf("Live(%d) of %sat %d = %v, want %v", fn, textOf(c), at, got[at], want)
				}
			}
		}
	})
}
