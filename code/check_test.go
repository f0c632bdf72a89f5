package code

import (
	"math"
	"slices"
	"strconv"
	"strings"
	"testing"

	"seedbed/api"
)

func back() api.Instr { return api.Instr{Op: api.IReturn, A: -1} }

// plain is a function with instructions that do nothing and a return.
func plain(name string, params, slots, length int) api.FnCode {
	f := api.FnCode{Name: name, Params: params, Slots: slots}
	for range length - 1 {
		f.Code = append(f.Code, api.Instr{Op: api.IAsk, A: -1, B: api.AYield})
	}
	if length > 0 {
		f.Code = append(f.Code, back())
	}
	return f
}

func codeOf(list ...api.FnCode) api.Code { return api.Code{Funcs: list} }

// TestP101Heads checks names, parameters, slots and lengths of functions, at the limits and beyond.
func TestP101Heads(t *testing.T) {
	for what, c := range map[string]api.Code{
		"one function": codeOf(plain("main", 0, 0, 1)), "another name": codeOf(plain("f", 0, 0, 1)), "a long name": codeOf(plain("abcdefghijk1", 0, 0, 1)), "two names": codeOf(plain("f", 0, 0, 1), plain("f1", 0, 0, 1)),
		"5 parameters": codeOf(plain("f", api.MaxParams+1, api.MaxParams+1, 1)), "200 slots": codeOf(plain("f", 1, 200, 1)), "4000 instructions": codeOf(plain("f", 0, 0, api.MaxCode)), "two of 4000": codeOf(plain("f", 0, 0, api.MaxCode), plain("g", 0, 0, api.MaxCode)),
	} {
		wantCheck(t, what, c, api.OK)
	}
	for what, c := range map[string]api.Code{
		"no function": {}, "nothing": codeOf(api.FnCode{}), "no name": codeOf(plain("", 0, 0, 1)), "a word": codeOf(plain("while", 0, 0, 1)), "a capital": codeOf(plain("Main", 0, 0, 1)), "a digit": codeOf(plain("1a", 0, 0, 1)), "a blank": codeOf(plain("a b", 0, 0, 1)), "a name that is too long": codeOf(plain("abcdefghijklm", 0, 0, 1)),
		"a name twice": codeOf(plain("f", 0, 0, 1), plain("g", 0, 0, 1), plain("f", 0, 0, 1)), "-1 parameters": codeOf(plain("f", -1, 0, 1)), "6 parameters": codeOf(plain("f", api.MaxParams+2, 9, 1)), "too few slots": codeOf(plain("f", 2, 1, 1)), "-1 slots": codeOf(plain("f", 0, -1, 1)), "201 slots": codeOf(plain("f", 0, 201, 1)),
		"numbers without end": codeOf(plain("f", math.MaxInt, math.MaxInt, 1)), "numbers without beginning": codeOf(plain("f", math.MinInt, math.MinInt, 1)), "no instruction": codeOf(plain("f", 0, 0, 0)), "4001 instructions": codeOf(plain("f", 0, 0, api.MaxCode+1)), "a wrong one behind": codeOf(plain("f", 0, 0, 1), plain("g", 0, 0, 0)),
		"a million functions": {Funcs: make([]api.FnCode, 1<<20)}, "a million instructions": codeOf(plain("f", 0, 0, 1<<20)), "arguments for nobody": codeOf(plain("f", -3, 0, 1), plain("g", 0, 0, 1)),
	} {
		wantCheck(t, what, c, api.ErrCode)
	}
	var many api.Code
	for i := range api.MaxFuncs + 1 {
		want := api.OK
		many.Funcs = append(many.Funcs, plain("f"+strconv.Itoa(i), 0, 0, 1))
		if i == api.MaxFuncs {
			want = api.ErrCode
		}
		wantCheck(t, strconv.Itoa(i+1)+" functions", many, want)
	}
}

// TestP101Callees checks that calls have as many arguments as there are parameters, of functions before and behind, and of the own one.
func TestP101Callees(t *testing.T) {
	for fn, params := range []int{1, 2, 0, api.MaxParams + 1} {
		for args := range api.MaxParams + 3 {
			for _, in := range []api.Instr{{Op: api.ICall, A: -1, B: fn}, {Op: api.IAsk, A: -1, B: api.ASpawn, C: fn}} {
				c := codeOf(plain("f", 1, 1, 1), plain("g", 2, 3, 2), plain("h", 0, 0, 1), plain("k", api.MaxParams+1, 9, 1))
				in.L = make([]int, args)
				c.Funcs[1].Code[0] = in
				want := api.ErrCode
				if args == params {
					want = api.OK
				}
				wantCheck(t, "a call of "+strconv.Itoa(fn)+" with "+strconv.Itoa(args), c, want)
			}
		}
	}
}

// TestP101Guards checks all guards with small fields, and how many there can be.
func TestP101Guards(t *testing.T) {
	const places, slots = 3, 4
	numbers := []int{math.MinInt, -2, -1, 0, 1, 2, 3, 4, 5, math.MaxInt}
	for _, from := range numbers {
		for _, to := range numbers {
			for _, at := range numbers {
				for _, slot := range numbers {
					c := codeOf(plain("f", 0, slots, places))
					c.Funcs[0].Guards = []api.Guard{{To: places}, {From: from, To: to, At: at, Slot: slot}}
					want := api.ErrCode
					if from >= 0 && from < to && to <= places && at >= 0 && at < places && slot >= 0 && slot < slots-1 {
						want = api.OK
					}
					if err := Check(c); err != want {
						t.Fatalf("Check with the guard %d %d %d %d: %d, want %d", from, to, at, slot, err, want)
					}
				}
			}
		}
	}
	for n, want := range map[int]api.Errno{api.MaxGuards: api.OK, api.MaxGuards + 1: api.ErrCode} {
		c := codeOf(plain("f", 0, 2, 1))
		c.Funcs[0].Guards = slices.Repeat([]api.Guard{{To: 1}}, n)
		wantCheck(t, strconv.Itoa(n)+" guards", c, want)
	}
	for slots, want := range map[int]api.Errno{0: api.ErrCode, 1: api.ErrCode, 2: api.OK} {
		c := codeOf(plain("f", 0, slots, 1))
		c.Funcs[0].Guards = []api.Guard{{To: 1}}
		wantCheck(t, "a guard with "+strconv.Itoa(slots)+" slots", c, want)
	}
}

// selecting returns a code of arms, something between, arms and an ask.
func selecting(before int, between []api.Instr, arms, ask int) api.Code {
	arm := []api.Instr{{Op: api.IArm, A: api.CAfter, L: []int{0}}}
	last := api.Instr{Op: api.IAsk, A: 0, B: ask}
	if ask == api.ASelect {
		last.L = []int{1}
	}
	list := slices.Concat(slices.Repeat(arm, before), between, slices.Repeat(arm, arms), []api.Instr{last, back()})
	return codeOf(api.FnCode{Name: "f", Slots: 2, Code: list})
}

// TestP101Arms checks how many arms there can be directly before a select.
func TestP101Arms(t *testing.T) {
	move := []api.Instr{{Op: api.IMove}}
	for arms := range 10 {
		want := api.OK
		if arms > api.MaxCases {
			want = api.ErrCode
		}
		wantCheck(t, strconv.Itoa(arms)+" arms", selecting(0, nil, arms, api.ASelect), want)
		wantCheck(t, strconv.Itoa(arms)+" arms behind others", selecting(9, move, arms, api.ASelect), want)
		wantCheck(t, strconv.Itoa(arms)+" arms before a yield", selecting(0, nil, arms, api.AYield), api.OK)
		wantCheck(t, strconv.Itoa(arms)+" arms before a move and a select", selecting(arms, move, 1, api.ASelect), api.OK)
	}
	wantCheck(t, "two selects with 4 arms each", selecting(4, []api.Instr{{Op: api.IAsk, A: -1, B: api.ASelect, C: 1, L: []int{0}}}, 4, api.ASelect), api.OK)
}

// sample is a code with all kinds of fields.
func sample() api.Code {
	f := plain("main", 1, 5, 3)
	f.Code[0] = api.Instr{Op: api.IConst, A: 2, V: api.Value{Kind: api.KText, S: `a "b`}}
	f.Code[1] = api.Instr{Op: api.IAsk, A: 1, B: api.ASend, L: []int{0, 3}}
	f.Guards = []api.Guard{{From: 0, To: 2, At: 1, Slot: 3}, {From: 1, To: 3, At: 2}}
	g := plain("g", 2, 2, 3)
	g.Code[0] = api.Instr{Op: api.IBinary, A: 1, B: api.EAdd, C: 1, L: []int{0}}
	g.Code[1] = api.Instr{Op: api.ISwitch, A: 1, L: []int{0, 1, 2}}
	return codeOf(f, g)
}

// changes change a code in one field each.
func changes() map[string]func(c *api.Code) {
	return map[string]func(c *api.Code){
		"Funcs": func(c *api.Code) { c.Funcs = c.Funcs[:1] }, "Name": func(c *api.Code) { c.Funcs[1].Name = "h" }, "Params": func(c *api.Code) { c.Funcs[1].Params-- }, "Slots": func(c *api.Code) { c.Funcs[0].Slots++ },
		"Code": func(c *api.Code) { c.Funcs[0].Code = c.Funcs[0].Code[1:] }, "Op": func(c *api.Code) { c.Funcs[0].Code[1].Op-- }, "A": func(c *api.Code) { c.Funcs[1].Code[0].A-- }, "B": func(c *api.Code) { c.Funcs[1].Code[0].B++ }, "C": func(c *api.Code) { c.Funcs[1].Code[0].C-- },
		"Kind": func(c *api.Code) { c.Funcs[0].Code[0].V.Kind++ }, "N": func(c *api.Code) { c.Funcs[0].Code[0].V.N++ }, "S": func(c *api.Code) { c.Funcs[0].Code[0].V.S = "a" }, "L": func(c *api.Code) { c.Funcs[1].Code[1].L[2] = 1 }, "length of L": func(c *api.Code) { c.Funcs[1].Code[1].L = []int{0, 1} }, "no L": func(c *api.Code) { c.Funcs[0].Code[1].L = nil },
		"Guards": func(c *api.Code) { c.Funcs[0].Guards = c.Funcs[0].Guards[:1] }, "no Guards": func(c *api.Code) { c.Funcs[0].Guards = nil }, "From": func(c *api.Code) { c.Funcs[0].Guards[1].From-- }, "To": func(c *api.Code) { c.Funcs[0].Guards[0].To++ }, "At": func(c *api.Code) { c.Funcs[0].Guards[0].At++ }, "Slot": func(c *api.Code) { c.Funcs[0].Guards[1].Slot++ },
	}
}

// TestP101Same checks that codes that differ in any field are not the same, and that empty lists are nil.
func TestP101Same(t *testing.T) {
	if !Same(sample(), sample()) || !Same(api.Code{}, api.Code{Funcs: []api.FnCode{}}) {
		t.Error("Same of equal codes")
	}
	for what, change := range changes() {
		c := sample()
		change(&c)
		if Same(c, sample()) || Same(sample(), c) || !Same(c, c) {
			t.Errorf("Same with another %s", what)
		}
	}
	c, d := codeOf(plain("f", 0, 0, 1)), codeOf(plain("f", 0, 0, 1))
	c.Funcs[0].Guards, c.Funcs[0].Code[0].L = []api.Guard{}, []int{}
	if !Same(c, d) || !Same(d, c) {
		t.Error("Same with empty lists")
	}
	if !Same(codeOf(api.FnCode{Code: []api.Instr{}}), codeOf(api.FnCode{})) || Same(api.Code{}, codeOf(api.FnCode{})) || Same(codeOf(api.FnCode{Code: []api.Instr{{}}}), codeOf(api.FnCode{})) {
		t.Error("Same of codes that are not valid")
	}
}

// TestP101Clone checks that a clone is equal, and shares no memory.
func TestP101Clone(t *testing.T) {
	for what, change := range changes() {
		c := sample()
		d, err := Clone(c)
		if err != api.OK || !Same(c, d) {
			t.Fatalf("Clone = %v, %d", d, err)
		}
		change(&d)
		if !Same(c, sample()) {
			t.Errorf("a change of %s changes both", what)
		}
	}
}

// TestP101Size checks numbers of instructions.
func TestP101Size(t *testing.T) {
	for want, c := range map[int]api.Code{1: codeOf(plain("f", 0, 0, 1)), 6: sample(), 2 * api.MaxCode: codeOf(plain("f", 0, 0, api.MaxCode), plain("g", 0, 0, api.MaxCode))} {
		if n, err := Size(c); n != want || err != api.OK {
			t.Errorf("Size = %d, %d, want %d", n, err, want)
		}
	}
}

// TestP101Unchanged checks that no function changes its argument.
func TestP101Unchanged(t *testing.T) {
	c := sample()
	text, err := Text(c)
	if err != api.OK || !strings.HasPrefix(text, "fn main 1 5\n") {
		t.Errorf("Text = %q, %d", text, err)
	}
	_, _ = Reached(c, 0)
	_, _ = Size(c)
	if !Same(c, sample()) {
		t.Error("an argument is changed")
	}
}
