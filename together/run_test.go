package together

import (
	"math/rand/v2"
	"testing"

	"seedbed/api"
	"seedbed/direct"
)

// run is what a coroutine did.
type run struct {
	source  string
	p       api.Program
	fn      int
	args    []api.Value
	answers []api.Answer
	turns   []api.Turn
	fuel    bool // it was stopped, as there were too many steps
}

func (x run) last() api.Turn { return x.turns[len(x.turns)-1] }

// valueOf makes a value of a kind.
func valueOf(r *rand.Rand, kind int) api.Value {
	switch kind {
	case api.KUnit:
		return api.Value{}
	case api.KInt:
		return api.Value{Kind: kind, N: []int{0, 1, -1, 2, 7, api.MaxInt, -api.MaxInt}[r.IntN(7)]}
	case api.KBool:
		return api.Value{Kind: kind, N: r.IntN(2)}
	case api.KText:
		return api.Value{Kind: kind, S: []string{"", "a", "closed"}[r.IntN(3)]}
	}
	return api.Value{Kind: kind, N: 1 + r.IntN(9)}
}

// argsOf makes arguments for a coroutine of a function.
func argsOf(r *rand.Rand, f api.Func) []api.Value {
	var args []api.Value
	for _, q := range f.Params {
		args = append(args, valueOf(r, q.Kind))
	}
	if f.Flow {
		args = append(args, valueOf(r, api.KChan))
	}
	return args
}

// world is how replies are made.
type world struct {
	r       *rand.Rand
	throws  int // one of so many replies is an FThrow (0: none)
	cancels int // one of so many replies to what can be cancelled is an FCancel (0: none)
}

func (w world) chance(one int) bool { return one > 0 && w.r.IntN(one) == 0 }

// reply makes a reply that fits an ask.
func (w world) reply(ask api.Ask) api.Answer {
	if w.chance(w.throws) {
		return api.Answer{Fault: api.Fault{Kind: api.FThrow, Text: []string{"closed", "late", ""}[w.r.IntN(3)]}}
	}
	if (direct.IsPoint(ask) || ask.Kind == api.ALeave) && w.chance(w.cancels) {
		return api.Answer{Fault: api.Fault{Kind: api.FCancel}}
	}
	if ask.Kind == api.ASelect {
		if len(ask.Arms)+ask.N == 0 {
			return api.Answer{Fault: api.Fault{Kind: api.FCancel}}
		}
		index := w.r.IntN(len(ask.Arms) + ask.N)
		if index < len(ask.Arms) && ask.Arms[index].Op == api.CReceive {
			return api.Answer{V: valueOf(w.r, api.KInt), Index: index}
		}
		return api.Answer{Index: index}
	}
	usual, _ := direct.Usual(ask, 1)
	return api.Answer{V: valueOf(w.r, usual.V.Kind)}
}

// execute lets a coroutine make at most a number of turns.
func (w world) execute(t *testing.T, source string, p api.Program, fn, most int) run {
	t.Helper()
	x := run{source: source, p: p, fn: fn, args: argsOf(w.r, p.Funcs[fn])}
	for len(x.turns) < most {
		turn, err := direct.Next(p, fn, x.args, x.answers)
		if err == api.ErrFuel {
			x.fuel = true
			break
		}
		if err != api.OK {
			t.Fatalf("%s: Next(%d, %v, %v): %d", source, fn, x.args, x.answers, err)
		}
		x.turns = append(x.turns, turn)
		if turn.Done {
			break
		}
		reply := w.reply(turn.Ask)
		if err := direct.Fits(turn.Ask, reply); err != api.OK {
			t.Fatalf("Fits(%v, %v): %d", turn.Ask, reply, err)
		}
		x.answers = append(x.answers, reply)
	}
	// The last reply was taken by nobody.
	x.answers = x.answers[:max(0, min(len(x.answers), len(x.turns)-1))]
	return x
}

// isDone reports whether a coroutine came to its end.
func (x run) isDone() bool { return len(x.turns) > 0 && x.last().Done }

// runs lets coroutines of all functions of random sound programs make turns, and visits them.
func runs(t *testing.T, programs uint64, makeWorld func(m *maker) world, visit func(x run)) {
	t.Helper()
	done := 0
	sound(t, programs, func(source string, p api.Program, m *maker, _ uint64) {
		w := makeWorld(m)
		for at := range 2 * len(p.Funcs) {
			x := w.execute(t, source, p, at/2, 25)
			if x.isDone() {
				done++
			}
			visit(x)
		}
	})
	if done < int(programs) {
		t.Errorf("only %d coroutines come to their end", done)
	}
}
