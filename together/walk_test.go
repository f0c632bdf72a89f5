package together

import (
	"fmt"
	"math/rand/v2"
	"slices"

	"seedbed/api"
)

// How statements end.
const (
	plainly = iota
	breaks
	continues
	returns
	raises
)

// ending is how a statement ends: with a value of a kind, or with a fault.
type ending struct {
	way, kind, fault int
}

// walker executes a function with kinds in place of values, as chapter 8 says: values decide by chance, but for the constant of a while true. It sees what is asked, and complains of what should not be.
type walker struct {
	p         api.Program
	r         *rand.Rand
	throws    bool // whether replies can have an FThrow
	steps     int
	calls     int
	asks      map[int]bool
	complaint string
	plains    map[int]plain
}

func newWalker(p api.Program, r *rand.Rand, throws bool) *walker {
	return &walker{p: p, r: r, throws: throws, asks: map[int]bool{}, plains: plains()}
}

// stop is the panic by which a walk ends.
type stop struct{}

func (w *walker) complain(format string, args ...any) {
	w.complaint = fmt.Sprintf(format, args...)
	panic(stop{})
}

func (w *walker) chance(n int) bool { return w.r.IntN(n) == 0 }

// walk executes a function with arguments of the kinds of its parameters. It returns false if it takes too long, or complains.
func (w *walker) walk(fn int) (end ending, done bool) {
	defer func() {
		if r := recover(); r != nil && r != (stop{}) {
			panic(r)
		}
	}()
	return w.call(fn), true
}

func (w *walker) step() {
	if w.steps++; w.steps > 200 {
		panic(stop{})
	}
}

// ask asks for something with values of kinds that should be those that are wanted, and returns the fault of the reply.
func (w *walker) ask(kind int, got, want []int) int {
	w.asks[kind] = true
	if !slices.Equal(got, want) {
		w.complain("ask %d has the kinds %v", kind, got)
	}
	if (isPoint(kind) || kind == api.ALeave) && w.chance(10) {
		return api.FCancel
	}
	if w.throws && w.chance(6) {
		return api.FThrow
	}
	return api.FNone
}

func isPoint(ask int) bool {
	switch ask {
	case api.AYield, api.ASleep, api.AAwait, api.ASend, api.AReceive, api.AHold, api.ASelect:
		return true
	}
	return false
}

func (w *walker) call(fn int) ending {
	f := w.p.Funcs[fn]
	if w.calls++; w.calls > api.MaxFrames {
		w.calls--
		return ending{raises, 0, api.FThrow}
	}
	vars := make([]int, f.Vars)
	for i, q := range f.Params {
		vars[i] = q.Kind
	}
	end := w.block(f, vars, f.Body)
	w.calls--
	if f.Flow {
		if fault := w.ask(api.AClose, nil, nil); fault != api.FNone {
			end = ending{raises, 0, fault}
		}
	}
	switch {
	case end.way == breaks || end.way == continues, end.way == plainly && f.Result != api.KUnit, end.way == returns && end.kind != f.Result:
		w.complain("function %d ends with %v", fn, end)
	}
	return end
}

func (w *walker) block(f api.Func, vars []int, list []api.Stmt) ending {
	for _, s := range list {
		w.step()
		if end := w.stmt(f, vars, s); end.way != plainly {
			return end
		}
	}
	return ending{}
}

// values evaluates expressions, until one has a fault.
func (w *walker) values(vars []int, list []api.Expr) (kinds []int, fault int) {
	for _, e := range list {
		kind, fault := w.value(vars, e)
		if fault != api.FNone {
			return nil, fault
		}
		kinds = append(kinds, kind)
	}
	return kinds, api.FNone
}

func (w *walker) value(vars []int, e api.Expr) (kind, fault int) {
	switch e.Op {
	case api.EInt:
		return api.KInt, api.FNone
	case api.EBool:
		return api.KBool, api.FNone
	case api.EText:
		return api.KText, api.FNone
	case api.EName:
		if vars[e.Slot] == api.KUnit {
			w.complain("%s is not made yet", e.S)
		}
		return vars[e.Slot], api.FNone
	}
	left, fault := w.value(vars, e.Args[0])
	if fault != api.FNone {
		return 0, fault
	}
	right := left
	if len(e.Args) == 2 {
		if lazy := e.Op == api.EOr || e.Op == api.EAnd; lazy && left == api.KBool && w.chance(2) {
			return api.KBool, api.FNone
		}
		if right, fault = w.value(vars, e.Args[1]); fault != api.FNone {
			return 0, fault
		}
	}
	return w.operate(e.Op, left, right)
}

func (w *walker) operate(op, left, right int) (kind, fault int) {
	if left != right {
		w.complain("operator %d has the kinds %d and %d", op, left, right)
	}
	numbers, texts, truths := left == api.KInt, left == api.KText, left == api.KBool
	kind, fits := api.KBool, true
	switch op {
	case api.ENot, api.EOr, api.EAnd:
		fits = truths
	case api.ELt, api.ELe, api.EGt, api.EGe:
		fits = numbers || texts
	case api.EAdd:
		kind, fits = left, numbers || texts
	case api.ENeg, api.ESub, api.EMul, api.EDiv, api.ERem:
		kind, fits = left, numbers
	}
	if !fits {
		w.complain("operator %d has the kind %d", op, left)
	}
	switch op {
	case api.ENeg, api.EAdd, api.ESub, api.EMul, api.EDiv, api.ERem:
		if w.chance(8) {
			return 0, api.FThrow
		}
	}
	return kind, api.FNone
}

// plain is what a statement does that asks once: with values of kinds, and with a reply of a kind.
type plain struct {
	ask   int
	wants []int
	reply int
}

func plains() map[int]plain {
	num, channel, task, lock := api.KInt, api.KChan, api.KTask, api.KLock
	return map[int]plain{
		api.SAwait: {api.AAwait, []int{task}, num}, api.SReceive: {api.AReceive, []int{channel}, num}, api.SChan: {api.AChan, []int{num}, channel}, api.SLock: {api.ALock, []int{num}, lock}, api.SNow: {api.ANow, nil, num},
		api.SSend: {api.ASend, []int{channel, num}, 0}, api.SClose: {api.AClose, []int{channel}, 0}, api.SSleep: {api.ASleep, []int{num}, 0}, api.SYield: {api.AYield, nil, 0}, api.SCancel: {api.ACancel, []int{task}, 0}, api.SProduce: {api.ASend, []int{num}, 0},
	}
}

func (w *walker) params(fn int) []int {
	var kinds []int
	for _, q := range w.p.Funcs[fn].Params {
		kinds = append(kinds, q.Kind)
	}
	return kinds
}

func (w *walker) stmt(f api.Func, vars []int, s api.Stmt) ending {
	if s.Op == api.SWhile {
		return w.loop(f, vars, s)
	}
	args, fault := w.values(vars, s.Args)
	if fault != api.FNone {
		return ending{raises, 0, fault}
	}
	if x, ok := w.plains[s.Op]; ok {
		return w.plain(vars, s, x, args)
	}
	switch s.Op {
	case api.SLet:
		vars[s.Slot] = args[0]
	case api.SSet:
		if vars[s.Slot] != args[0] {
			w.complain("%s of the kind %d is set to the kind %d", s.Name, vars[s.Slot], args[0])
		}
	case api.SEmit:
		return w.reply(w.ask(api.AEmit, nil, nil))
	case api.SThrow:
		w.wants(args, api.KText)
		return ending{raises, 0, api.FThrow}
	case api.SBreak:
		return ending{way: breaks}
	case api.SContinue:
		return ending{way: continues}
	case api.SReturn:
		return ending{returns, append(args, api.KUnit)[0], 0}
	case api.SCall, api.SSpawn:
		return w.calling(vars, s, args)
	default:
		return w.large(f, vars, s, args)
	}
	return ending{}
}

func (w *walker) wants(got []int, want ...int) {
	if !slices.Equal(got, want) {
		w.complain("kinds %v, not %v", got, want)
	}
}

func (w *walker) reply(fault int) ending {
	if fault != api.FNone {
		return ending{raises, 0, fault}
	}
	return ending{}
}

func (w *walker) plain(vars []int, s api.Stmt, x plain, args []int) ending {
	fault := w.ask(x.ask, args, x.wants)
	switch {
	case fault == api.FThrow && s.Op == api.SReceive && s.Flag == 1:
		return ending{way: breaks}
	case fault == api.FNone && s.Name != "":
		vars[s.Slot] = x.reply
	}
	return w.reply(fault)
}

func (w *walker) calling(vars []int, s api.Stmt, args []int) ending {
	kind := api.KTask
	if s.Op == api.SSpawn {
		if result := w.p.Funcs[s.Index].Result; result != api.KUnit && result != api.KInt {
			w.complain("a task has a result of the kind %d", result)
		}
		if fault := w.ask(api.ASpawn, args, w.params(s.Index)); fault != api.FNone {
			return ending{raises, 0, fault}
		}
	} else {
		w.wants(args, w.params(s.Index)...)
		w.step()
		end := w.call(s.Index)
		if end.way == raises {
			return end
		}
		kind = end.kind
	}
	if s.Name != "" {
		if kind == api.KUnit {
			w.complain("%s gets no value", s.Name)
		}
		vars[s.Slot] = kind
	}
	return ending{}
}

func (w *walker) loop(f api.Func, vars []int, s api.Stmt) ending {
	for {
		w.step()
		args, fault := w.values(vars, s.Args)
		if fault != api.FNone {
			return ending{raises, 0, fault}
		}
		w.wants(args, api.KBool)
		if forever := s.Args[0].Op == api.EBool && s.Args[0].N == 1; !forever && w.chance(2) {
			return ending{}
		}
		switch end := w.block(f, vars, s.Body); end.way {
		case breaks:
			return ending{}
		case returns, raises:
			return end
		}
	}
}

func (w *walker) large(f api.Func, vars []int, s api.Stmt, args []int) ending {
	switch s.Op {
	case api.SIf:
		w.wants(args, api.KBool)
		if w.chance(2) {
			return w.block(f, vars, s.Body)
		}
		return w.block(f, vars, s.Other)
	case api.SScope:
		return w.scope(append(args, api.KInt)[:1], func() ending { return w.block(f, vars, s.Body) })
	case api.SShield:
		return w.around(f, vars, s, api.AShield, api.AUnveil, nil, nil)
	case api.SUse:
		return w.around(f, vars, s, api.AAcquire, api.ARelease, args, []int{api.KInt})
	case api.SHold:
		return w.around(f, vars, s, api.AHold, api.AFree, args, []int{api.KLock})
	case api.STry:
		return w.attempt(f, vars, s)
	case api.SSelect:
		return w.choice(f, vars, s)
	}
	return w.each(f, vars, s, args)
}

func (w *walker) scope(args []int, body func() ending) ending {
	if fault := w.ask(api.AOpen, args, []int{api.KInt}); fault != api.FNone {
		return ending{raises, 0, fault}
	}
	end := body()
	if fault := w.ask(api.ALeave, nil, nil); fault != api.FNone {
		return ending{raises, 0, fault}
	}
	if end.way == raises {
		return ending{}
	}
	return end
}

func (w *walker) around(f api.Func, vars []int, s api.Stmt, before, behind int, args, want []int) ending {
	if fault := w.ask(before, args, want); fault != api.FNone {
		return ending{raises, 0, fault}
	}
	if s.Name != "" {
		vars[s.Slot] = args[0]
	}
	end := w.block(f, vars, s.Body)
	if fault := w.ask(behind, args, want); fault != api.FNone && end.way != raises {
		return ending{raises, 0, fault}
	}
	return end
}

func (w *walker) attempt(f api.Func, vars []int, s api.Stmt) ending {
	end := w.block(f, vars, s.Body)
	if end.way == raises && end.fault == api.FThrow && s.Flag&1 != 0 {
		vars[s.Slot] = api.KText
		end = w.block(f, vars, s.Other)
	}
	if last := w.block(f, vars, s.Last); last.way != plainly {
		return last
	}
	return end
}

func (w *walker) choice(f api.Func, vars []int, s api.Stmt) ending {
	want := map[int][]int{api.CReceive: {api.KChan}, api.CSend: {api.KChan, api.KInt}, api.CAfter: {api.KInt}}
	for _, k := range s.Cases {
		args, fault := w.values(vars, k.Args)
		if fault != api.FNone {
			return ending{raises, 0, fault}
		}
		w.wants(args, want[k.Op]...)
	}
	if fault := w.ask(api.ASelect, nil, nil); fault != api.FNone {
		return ending{raises, 0, fault}
	}
	k := s.Cases[w.r.IntN(len(s.Cases))]
	if k.Op == api.CReceive {
		vars[k.Slot] = api.KInt
	}
	return w.block(f, vars, k.Body)
}

func (w *walker) each(f api.Func, vars []int, s api.Stmt, args []int) ending {
	return w.scope([]int{api.KInt}, func() ending {
		for _, ask := range []int{api.AChan, api.ASpawn} {
			if fault := w.ask(ask, args, w.params(s.Index)); fault != api.FNone {
				return ending{raises, 0, fault}
			}
		}
		end := w.rounds(f, vars, s)
		if fault := w.ask(api.ACancel, nil, nil); fault != api.FNone {
			return ending{raises, 0, fault}
		}
		return end
	})
}

func (w *walker) rounds(f api.Func, vars []int, s api.Stmt) ending {
	for {
		w.step()
		fault := w.ask(api.AReceive, nil, nil)
		switch {
		case w.chance(3):
			return ending{} // closed
		case fault != api.FNone:
			return ending{raises, 0, fault}
		}
		vars[s.Slot] = api.KInt
		switch end := w.block(f, vars, s.Body); end.way {
		case breaks:
			return ending{}
		case returns, raises:
			return end
		}
	}
}
