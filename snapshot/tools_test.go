package snapshot

import (
	"fmt"
	"math/rand/v2"
	"strings"
	"testing"

	"seedbed/api"
	"seedbed/compile"
	"seedbed/syntax"
	"seedbed/trace"
	"seedbed/world"
)

func number(n int) api.Value  { return api.Value{Kind: api.KInt, N: n} }
func text(s string) api.Value { return api.Value{Kind: api.KText, S: s} }

// mainAlone is the specification of main, which is not started again.
func mainAlone() api.Spec {
	return api.Spec{Rule: api.ROne, Within: 1, Services: []api.Service{{When: api.WNever}}}
}

// engines returns both engines of a source.
func engines(t *testing.T, source string) [2]*world.Engine {
	t.Helper()
	p, at, err := syntax.Parse(source)
	if err != api.OK {
		t.Fatalf("%s: error %d at %d", source, err, at)
	}
	c, err := compile.Compile(p)
	if err != api.OK {
		t.Fatalf("%s: error %d", source, err)
	}
	return [2]*world.Engine{world.Direct(p), world.Compiled(c)}
}

func newWorld(t *testing.T, e *world.Engine, s api.Spec) *world.World {
	t.Helper()
	w, err := world.New(e, s)
	if err != api.OK {
		t.Fatalf("New(%v): %d", s, err)
	}
	return w
}

// textOf returns a text that there must be.
func textOf(t *testing.T, w *world.World) string {
	t.Helper()
	s, err := Text(w)
	if err != api.OK {
		t.Fatalf("Text: %d", err)
	}
	return s
}

// values are blanks and the texts of values.
func values(list []api.Value) string {
	out := ""
	for _, v := range list {
		s, _ := trace.Value(v)
		out += " " + s
	}
	return out
}

func numbers(list []int) string {
	out := ""
	for _, n := range list {
		out += fmt.Sprint(" ", n)
	}
	return out
}

func fault(f api.Fault) string {
	switch f.Kind {
	case api.FThrow:
		return "throw" + values([]api.Value{text(f.Text)})
	case api.FCancel:
		return "cancel"
	}
	return "-"
}

func flag(is bool) int {
	if is {
		return 1
	}
	return 0
}

// shotOf writes a snapshot once more, line by line as the chapter has them.
func shotOf(w *world.World) string {
	var out strings.Builder
	s := w.Spec()
	fmt.Fprintf(&out, "seedbed 1\nrule %d %d %d %d %d\n", s.Rule, s.Most, s.Within, s.Base, s.Cap)
	for _, x := range s.Services {
		fmt.Fprintf(&out, "service %d %d%s\n", x.Fn, x.When, values(x.Args))
	}
	fmt.Fprintf(&out, "picks%s\ntime %d %d\nout%s\n", numbers(w.Picks()), w.Now(), w.Status(), values(w.Out()))
	for n := 1; n <= api.MaxTasks; n++ {
		if v, err := w.Task(n); err == api.OK {
			fmt.Fprintf(&out, "task %d %d %d %d %d %d %d%s %s :%s\n", n, v.Fn, v.Phase, v.Ask, v.Asks, flag(w.Struck(api.Link{Kind: api.LTask, N: n})), w.Serves(n), values([]api.Value{v.V}), fault(v.Fault), values(w.Args(n)))
		}
	}
	for n := 1; n <= api.MaxChans; n++ {
		if c, err := w.Chan(n); err == api.OK {
			fmt.Fprintf(&out, "chan %d %d %d %d %d%s :", n, c.Cap, c.Policy, flag(c.Closed), c.Dropped, values(c.Buffer))
			for _, x := range c.Waiters {
				fmt.Fprintf(&out, " %d", x.Ticket)
				if x.Send {
					fmt.Fprint(&out, values([]api.Value{x.V}))
				}
			}
			fmt.Fprintln(&out)
		}
	}
	for n := 1; n <= api.MaxLocks; n++ {
		if l, err := w.Lock(n); err == api.OK {
			fmt.Fprintf(&out, "lock %d %d %d", n, l.Permits, l.Free)
			for _, h := range l.Holders {
				fmt.Fprintf(&out, " %d %d", h.Party, h.N)
			}
			fmt.Fprintf(&out, " :%s\n", numbers(l.Waiting))
		}
	}
	for n := 1; n <= api.MaxScopes; n++ {
		if x, err := w.Scope(n); err == api.OK {
			fmt.Fprintf(&out, "scope %d %d %d %d %d %d%s : %s\n", n, x.Owner, flag(x.Supervised), flag(x.Over), flag(w.Struck(api.Link{Kind: api.LScope, N: n})), w.Until(n), numbers(x.Tasks), fault(x.Fault))
		}
	}
	for n := range s.Services {
		state, at := w.Service(n + 1)
		fmt.Fprintf(&out, "state %d %d %d\n", n+1, state, at)
	}
	fmt.Fprintf(&out, "warden %d%s\n", w.Delay(), numbers(w.Restarts()))
	for at, d := range w.Timers() {
		fmt.Fprintf(&out, "timer %d %d %d\n", at, d.Who, d.Index)
	}
	for _, x := range w.Log() {
		fmt.Fprintf(&out, "entry %d %d %d %d\n", x.What, x.Task, x.From, x.To)
	}
	return out.String() + "end\n"
}

// play is a source, and the arguments of those of its functions that can be services.
type play struct {
	source string
	args   [][]api.Value
}

func plays() []play {
	ch, lo := api.Value{Kind: api.KChan, N: 1}, api.Value{Kind: api.KLock, N: 1}
	return []play{
		{`fn main() { let c = chan 1; let d = chan 0; let l = lock 1; scope { spawn a(c, l, 3); spawn b(c, d); let t = spawn b(d, c); select { receive x from c { emit x; } send d, 4 { emit "sent"; } after 2 { let y = now; emit y; } } sleep 1; cancel t; } } fn a(c chan, l lock, n int) { while n > 0 { hold l { send c, n; n = n - 1; yield; } } close c; } fn b(c chan, d chan) { let x = 0; while x < 9 { let y = receive c; x = y; select { send d, x { } after 1 { emit x; } } } }`, [][]api.Value{nil, {ch, lo, number(2)}, {ch, ch}}},
		{`fn main() { let l = lock 2; let m = lock 1; scope supervised within 9 { spawn a(l, m); spawn a(m, l); spawn a(l, l); } } fn a(l lock, m lock) { use r = 3 { hold l { yield; hold m { sleep 2; emit true; } } } }`, [][]api.Value{nil, {lo, lo}}},
		{`fn main() { try { scope within 4 { spawn f(3, "a"); spawn f(2, "b \"c\" \\"); scope supervised { spawn f(1, ""); shield { sleep 3; } } } } catch e { emit e; throw e; } } fn f(n int, e text) { use r = n { scope { if n > 1 { spawn f(n - 1, e); } use q = 10 + n { try { sleep n; } finally { emit e; yield; } } if n == 2 { throw e; } } } }`, [][]api.Value{nil, {number(3), text("x")}}},
		{`fn main() { each x from g(4) buffer 2 { emit x; if x == 2 { break; } sleep 1; } } fn g(n int) flow { let i = 0; while i < n { produce i; i = i + 1; } }`, [][]api.Value{nil}},
		{`fn main() { sleep 1; throw "m"; } fn a(c chan, e text) { shield { sleep 2; emit e; } } fn b() { } fn c(n int) { sleep n; throw "c"; }`, [][]api.Value{nil, {ch, text(` "\`)}, nil, {number(1)}}},
	}
}

// spec makes a specification of some services of a play.
func (x play) spec(r *rand.Rand) api.Spec {
	s := api.Spec{Rule: 1 + r.IntN(3), Most: r.IntN(4), Within: 1 + r.IntN(9), Base: r.IntN(3), Cap: 2 + r.IntN(5)}
	for i := range 1 + r.IntN(3) {
		fn := 0
		if i > 0 || r.IntN(4) == 0 {
			fn = r.IntN(len(x.args))
		}
		s.Services = append(s.Services, api.Service{Fn: fn, Args: x.args[fn], When: 1 + r.IntN(3)})
	}
	return s
}

// runs visits random runs of all plays, by both engines.
func runs(t *testing.T, salt uint64, rounds int, visit func(r *rand.Rand, e, other *world.Engine, w *world.World)) {
	t.Helper()
	for i, x := range plays() {
		both := engines(t, x.source)
		for round := range rounds {
			r := rand.New(rand.NewPCG(salt, uint64(round*100+i)))
			at := round % 2
			visit(r, both[at], both[1-at], newWorld(t, both[at], x.spec(r)))
		}
	}
}
