package together

import (
	"math/rand/v2"
	"strconv"
	"testing"

	"seedbed/api"
	"seedbed/code"
	"seedbed/instr"
	"seedbed/machine"
)

// coder writes random valid codes.
type coder struct {
	r     *rand.Rand
	forms instr.Forms
	c     api.Code
	fn    *api.FnCode
	at    int // the place of what is made
}

// newCoder makes a coder with a code of functions without instructions.
func newCoder(seed uint64) *coder {
	k := &coder{r: rand.New(rand.NewPCG(14, seed)), forms: instr.Table()}
	for i := range 1 + k.r.IntN(3) {
		params := k.r.IntN(4)
		k.c.Funcs = append(k.c.Funcs, api.FnCode{Name: "f" + strconv.Itoa(i), Params: params, Slots: max(params, 2) + k.r.IntN(4)})
	}
	return k
}

// codes visits random valid codes.
func codes(t *testing.T, seeds uint64, visit func(k *coder, c api.Code)) {
	t.Helper()
	for seed := range seeds {
		k := newCoder(seed)
		for i := range k.c.Funcs {
			k.function(&k.c.Funcs[i])
		}
		if err := code.Check(k.c); err != api.OK {
			t.Fatalf("Check of %v: %d", k.c, err)
		}
		visit(k, k.c)
	}
}

func (k *coder) function(f *api.FnCode) {
	k.fn = f
	f.Code = make([]api.Instr, 1+k.r.IntN(24))
	last := len(f.Code) - 1
	for at := range f.Code {
		k.at = at
		in := k.instr()
		for at == last && !k.forms[in.Op].Ends || in.Op == api.IArm && instr.Arms(f.Code, at) == api.MaxCases {
			in = k.instr()
		}
		f.Code[at] = in
	}
	for range k.r.IntN(5) {
		from := k.r.IntN(len(f.Code))
		f.Guards = append(f.Guards, api.Guard{From: from, To: from + 1 + k.r.IntN(len(f.Code)-from), At: k.r.IntN(len(f.Code)), Slot: k.r.IntN(f.Slots - 1)})
	}
}

// instr makes an instruction. Those after which much can follow are more likely than others.
func (k *coder) instr() api.Instr {
	in := api.Instr{Op: k.pick(api.IConst, api.IConst, api.IMove, api.IAsk, api.IAsk, api.IArm, api.IBinary, 1+k.r.IntN(api.IRaise), 1+k.r.IntN(api.IRaise), 1+k.r.IntN(api.IRaise))}
	switch in.Op {
	case api.IAsk:
		in.B = k.pick(api.ASelect, 1+k.r.IntN(api.ARelease), 1+k.r.IntN(api.ARelease), 1+k.r.IntN(api.ARelease))
	case api.IArm:
		in.A = 1 + k.r.IntN(api.CAfter)
	case api.IConst:
		in.V = k.value()
	case api.ICall:
		in.B = k.r.IntN(len(k.c.Funcs))
	}
	form, _ := k.forms.Of(in)
	in.L = make([]int, min(form.L.Least+k.r.IntN(3), form.L.Most))
	for field, role := range k.forms.Fields(&in) {
		*field = k.number(role, *field)
	}
	switch {
	case in.Op == api.ICall:
		in.L = k.args(in.B)
	case in.Op == api.IAsk && in.B == api.ASpawn:
		in.L = k.args(in.C)
	}
	return in
}

func (k *coder) pick(list ...int) int { return list[k.r.IntN(len(list))] }

// args makes the slots of arguments for a function.
func (k *coder) args(fn int) []int {
	list := make([]int, k.c.Funcs[fn].Params)
	for i := range list {
		list[i] = k.r.IntN(k.fn.Slots)
	}
	return list
}

// number makes a number of a role, or keeps that which says what else there is.
func (k *coder) number(r instr.Role, n int) int {
	switch r {
	case instr.Slot, instr.Set:
		return k.r.IntN(k.fn.Slots)
	case instr.Maybe, instr.MaybeSet:
		return k.r.IntN(k.fn.Slots+1) - 1
	case instr.Double:
		return k.r.IntN(k.fn.Slots - 1)
	case instr.Place:
		if k.r.IntN(4) > 0 {
			return k.at + k.r.IntN(len(k.fn.Code)-k.at)
		}
		return k.r.IntN(len(k.fn.Code))
	case instr.Function:
		return k.r.IntN(len(k.c.Funcs))
	case instr.Unary:
		return api.ENot + k.r.IntN(2)
	case instr.Binary:
		return api.EEq + k.r.IntN(api.ERem-api.EEq+1)
	case instr.Flag:
		return k.r.IntN(2)
	case instr.Policy:
		return k.r.IntN(3)
	}
	return n
}

func (k *coder) value() api.Value {
	if k.r.IntN(2) == 0 {
		return api.Value{Kind: api.KInt, N: k.r.IntN(4)}
	}
	return valueOf(k.r, k.r.IntN(api.KLock+1))
}

// values makes arguments for a function.
func (k *coder) values(f api.FnCode) []api.Value {
	var list []api.Value
	for range f.Params {
		list = append(list, k.value())
	}
	return list
}

// walk is what a coroutine of a code did.
type walk struct {
	fn      int
	args    []api.Value
	answers []api.Answer
	turns   []api.Turn
	frames  [][]api.Frame // after each turn
}

func (x walk) last() api.Turn { return x.turns[len(x.turns)-1] }

// execute lets a coroutine of a code make at most a number of turns; false: it was stopped, as there were too many steps.
func (k *coder) execute(t *testing.T, c api.Code, fn, most int) (walk, bool) {
	t.Helper()
	x := walk{fn: fn, args: k.values(c.Funcs[fn])}
	w := world{r: k.r, throws: 12, cancels: 12}
	frames, turn, err := machine.Start(c, fn, x.args)
	for {
		if err != api.OK && err != api.ErrFuel {
			t.Fatalf("%s: %d with %v after %v: %d", textOf(c), fn, x.args, x.answers, err)
		}
		if err == api.ErrFuel {
			return x, false
		}
		x.turns, x.frames = append(x.turns, turn), append(x.frames, frames)
		if turn.Done || len(x.turns) == most {
			return x, true
		}
		x.answers = append(x.answers, w.reply(turn.Ask))
		frames, turn, err = machine.Go(c, frames, x.answers[len(x.answers)-1])
	}
}

// walks lets coroutines of all functions of random codes make turns, and visits them.
func walks(t *testing.T, seeds uint64, visit func(k *coder, c api.Code, x walk)) {
	t.Helper()
	asks, fuel := 0, 0
	codes(t, seeds, func(k *coder, c api.Code) {
		for at := range 3 * len(c.Funcs) {
			x, ok := k.execute(t, c, at/3, 15)
			if !ok {
				fuel++
				continue
			}
			asks += len(x.answers)
			visit(k, c, x)
		}
	})
	if asks < 7*int(seeds) || fuel > 2*int(seeds) {
		t.Errorf("only %d asks, %d coroutines without fuel", asks, fuel)
	}
}

func textOf(c api.Code) string {
	text, err := code.Text(c)
	if err != api.OK {
		return "(no code)"
	}
	return text
}
