package world

import (
	"math/rand/v2"
	"slices"
	"strconv"
	"strings"
	"testing"

	"seedbed/api"
)

// author writes random sources whose tasks have channels, a lock and a number in common.
type author struct {
	r     *rand.Rand
	names int
	left  int // statements
}

func (a *author) name() string {
	a.names++
	return "x" + strconv.Itoa(a.names)
}

func (a *author) n(most int) string { return strconv.Itoa(a.r.IntN(most + 1)) }

func (a *author) either(list ...string) string { return list[a.r.IntN(len(list))] }

func (a *author) call() string {
	return a.either("a", "b", "b") + "(" + a.either("c", "d") + ", " + a.either("c", "d") + ", l, n - 1)"
}

func (a *author) block(depth int, jobs ...string) string {
	text := "{ "
	for range 1 + a.r.IntN(3) {
		text += a.stmt(depth, &jobs)
	}
	return text + "} "
}

func (a *author) stmt(depth int, jobs *[]string) string {
	a.left--
	if depth > 0 && a.left > 0 && a.r.IntN(2) == 0 {
		return a.nested(depth-1, *jobs)
	}
	if len(*jobs) > 0 && a.r.IntN(3) == 0 {
		job := a.either(*jobs...)
		x := a.name()
		return a.either("await "+job+"; ", "cancel "+job+"; ", "let "+x+" = await "+job+"; emit "+x+"; ")
	}
	x, c := a.name(), a.either("c", "d")
	switch a.r.IntN(13) {
	case 0, 1, 2:
		*jobs = append(*jobs, x)
		return "let " + x + " = spawn " + a.call() + "; "
	case 3:
		return "send " + c + ", " + a.n(9) + "; "
	case 4:
		return "let " + x + " = receive " + c + "; emit " + x + "; "
	case 5:
		return "sleep " + a.n(4) + "; "
	case 6:
		return "yield; "
	case 7:
		return a.either("throw \"x\"; ", "close "+c+"; ", "sleep 1; ", "if n == 0 { return; } ")
	case 8:
		return "let " + x + " = now; emit " + x + "; "
	case 9:
		return "f(n, " + c + "); "
	}
	return "emit " + a.n(99) + "; "
}

func (a *author) nested(depth int, jobs []string) string {
	x, y, c := a.name(), a.name(), a.either("c", "d")
	in := func() string { return a.block(depth, jobs...) }
	switch a.r.IntN(12) {
	case 0, 1, 2:
		return a.either("scope ", "scope ", "scope supervised ", "scope within "+a.n(3)+" ", "scope supervised within "+a.n(3)+" ") + in()
	case 3:
		return "shield " + in()
	case 4:
		return "use " + x + " = " + a.n(9) + " " + in()
	case 5:
		return "hold l " + in()
	case 6:
		return "try " + in() + a.either("catch "+x+" { emit "+x+"; } ", "finally "+in(), "catch "+x+" "+in()+"finally "+in())
	case 7:
		return "select { receive " + x + " from " + c + " { emit " + x + "; } send " + a.either("c", "d") + ", " + a.n(9) + " " + in() + "after " + a.n(3) + " " + in() + a.either("", "", "else "+in()) + "} "
	case 8:
		return "let " + x + " = 0; while " + x + " < " + a.n(3) + " { " + x + " = " + x + " + 1; " + a.stmt(depth, &[]string{}) + "} "
	case 9:
		return "each " + x + " from g(" + a.n(3) + ") " + a.either("", "buffer 2 ", "buffer 1 drop old ") + "{ emit " + x + "; " + a.either("", "break; ", "let "+y+" = now; ") + "} "
	}
	return "if n > " + a.n(2) + " " + in() + a.either("", "else "+in())
}

func (a *author) source() string {
	f := func(head string) string {
		a.left = 12
		return "fn " + head + " { if n < 1 { emit n; return; } " + a.stmt(3, &[]string{}) + a.stmt(3, &[]string{}) + a.stmt(3, &[]string{}) + "} "
	}
	a.left = 12
	return "fn main() { let c = chan " + a.n(2) + "; let d = chan " + a.n(1) + a.either("", " drop old", " drop new") + "; let l = lock " + a.either("1", "1", "2") + "; let n = 3; scope " + a.either("", "supervised ", "within "+a.n(6)+" ") + a.block(3) + a.stmt(3, &[]string{}) + "} " +
		f("a(c chan, d chan, l lock, n int)") + f("b(c chan, d chan, l lock, n int)") +
		"fn f(n int, c chan) { if n > 1 { emit n; sleep 1; } else { send c, n; } } " +
		"fn g(n int) flow { let i = 0; while i < n { produce i; i = i + 1; " + a.either("", "sleep 1; ", "emit i; ") + "} } " +
		"fn h(c chan, l lock) { hold l { sleep 1; send c, 1; } throw \"h\"; } "
}

// spec makes a specification of main and up to two other services.
func (a *author) spec() api.Spec {
	s := api.Spec{Rule: 1 + a.r.IntN(3), Most: a.r.IntN(4), Within: 1 + a.r.IntN(9), Base: a.r.IntN(3), Cap: 2 + a.r.IntN(5)}
	s.Services = []api.Service{{When: 1 + a.r.IntN(3)}}
	for range a.r.IntN(3) {
		args := []api.Value{ch(1), ch(2), lo(1), val(a.r.IntN(3))}
		service := api.Service{Fn: 1 + a.r.IntN(2), Args: args, When: 1 + a.r.IntN(3)}
		if a.r.IntN(3) == 0 {
			service.Fn, service.Args = 5, []api.Value{ch(1 + a.r.IntN(2)), lo(1)}
		}
		s.Services = slices.Insert(s.Services, a.r.IntN(len(s.Services)+1), service)
	}
	return s
}

func (a *author) picks(n int) []int {
	var list []int
	for range a.r.IntN(n) {
		list = append(list, a.r.IntN(40)-8)
	}
	return list
}

// authors visits random sources.
func authors(t *testing.T, seed uint64, n int, visit func(a *author, source string)) {
	t.Helper()
	for i := range n {
		a := &author{r: rand.New(rand.NewPCG(seed, uint64(i)))}
		visit(a, a.source())
	}
}

// TestP242Random checks that both engines have the same traces, and P24.3 to P24.5 after each step.
func TestP242Random(t *testing.T) {
	t.Parallel()
	kinds, statuses := map[int]int{}, map[int]int{}
	authors(t, 242, 200, func(a *author, source string) {
		direct, compiled := engines(t, source)
		s := a.spec()
		w, v := newWorld(t, direct, s), newWorld(t, compiled, s)
		for _, pick := range append(a.picks(100), make([]int, 50)...) {
			one, two := w.Step(pick), v.Step(pick)
			if one != two {
				t.Fatalf("%s: Step(%d) = %d and %d", source, pick, one, two)
			}
			if one != api.OK {
				break
			}
			checkState(t, v)
		}
		if !slices.Equal(w.Trace(), v.Trace()) || !slices.Equal(w.Picks(), v.Picks()) {
			t.Fatalf("%s: %s\n%s", source, traceOf(w), traceOf(v))
		}
		checkStory(t, w, true)
		for _, e := range w.Trace() {
			kinds[e.Kind]++
		}
		statuses[w.Status()]++
	})
	for kind := api.VStart; kind <= api.VLeft; kind++ {
		if kinds[kind] < 10 != (kind == api.VLeak) {
			t.Errorf("%d events %s", kinds[kind], kindNames[kind])
		}
	}
	for status := api.UnderWay; status <= api.Stuck; status++ {
		if statuses[status] < 10 {
			t.Errorf("%d runs with the status %d", statuses[status], status)
		}
	}
}

// wild makes random asks, most of which can be done.
type wild struct{ r *rand.Rand }

func newWild(salt, seed uint64) wild { return wild{rand.New(rand.NewPCG(salt, seed))} }

func (a wild) value() api.Value {
	return api.Value{Kind: a.r.IntN(7), N: 1 + a.r.IntN(3)}
}

func (a wild) fault() api.Fault {
	return []api.Fault{{}, {}, cancelled(), thrown("x"), {Kind: 3}}[a.r.IntN(5)]
}

func (a wild) arm() api.Arm {
	return api.Arm{Op: 1 + a.r.IntN(3), V: ch(1 + a.r.IntN(2)), W: val(a.r.IntN(5)), N: a.r.IntN(5)}
}

func (a wild) ask() api.Ask {
	x := api.Ask{Kind: a.r.IntN(23), N: a.r.IntN(4), M: a.r.IntN(8) - 1, V: a.value(), W: val(a.r.IntN(9)), Fn: a.r.IntN(4)}
	switch x.Kind {
	case api.AAwait, api.ACancel:
		x.V = job(1 + a.r.IntN(8))
	case api.ASend, api.AReceive, api.AClose:
		x.V = ch(1 + a.r.IntN(3))
	case api.AHold, api.AFree:
		x.V = lo(1 + a.r.IntN(2))
	case api.ASelect:
		for range a.r.IntN(4) {
			x.Arms = append(x.Arms, a.arm())
		}
	case api.ALeave:
		x.Fault = a.fault()
	case api.ASpawn:
		x.Args = []api.Value{val(1)}
	}
	if a.r.IntN(30) == 0 {
		x.V = a.value()
	}
	return x
}

func (a wild) spec() api.Spec {
	s := plainSpec(0, 1, a.r.IntN(4))
	s.Rule, s.Most, s.Base, s.Cap = 1+a.r.IntN(3), a.r.IntN(3), a.r.IntN(2), 3
	for i := range s.Services {
		s.Services[i].When = 1 + a.r.IntN(3)
	}
	return s
}

// script makes random turns of four functions.
func (a wild) script() script {
	var s script
	for fn := range 4 {
		turns := asks(askN(api.AChan, a.r.IntN(3)), askN(api.ALock, 1), opens(a.r.IntN(2), a.r.IntN(9)-1), spawns(a.r.IntN(4)))
		if fn > 1 {
			turns = nil
		}
		for range a.r.IntN(25) {
			turns = append(turns, asks(a.ask())...)
		}
		end := ends(val(a.r.IntN(9)), api.Fault{})
		if a.r.IntN(2) == 0 {
			end = ends(api.Value{}, []api.Fault{thrown("y"), cancelled()}[a.r.IntN(2)])
		}
		s = append(s, append(turns, end))
	}
	return s
}

// TestP243Wild checks P24.3 to P24.5 for coroutines that ask for anything.
func TestP243Wild(t *testing.T) {
	t.Parallel()
	kinds := map[int]int{}
	for seed := range uint64(400) {
		a := newWild(243, seed)
		w := play(t, a.spec(), a.script()...)
		for range 150 {
			if w.Step(a.r.IntN(50)) != api.OK {
				break
			}
			checkState(t, w)
		}
		checkStory(t, w, false)
		for _, e := range w.Trace() {
			kinds[e.Kind]++
		}
	}
	for kind := api.VStart; kind <= api.VLeft; kind++ {
		if kinds[kind] < 20 {
			t.Errorf("%d events %s", kinds[kind], kindNames[kind])
		}
	}
}

// stateOf is all that can be asked about a world.
func stateOf(w *World) string {
	var all []string
	add := func(list ...int) {
		for _, n := range list {
			all = append(all, strconv.Itoa(n))
		}
	}
	add(w.Status(), w.Now())
	add(w.Picks()...)
	add(w.Ready()...)
	add(w.Stuck()...)
	for n := range api.MaxTasks {
		v, err := w.Task(n)
		add(v.Fn, v.Phase, v.Ask, v.Asks, int(err))
		state, at := w.Service(n)
		add(state, at, w.Serves(n), w.Until(n))
		for _, x := range w.Args(n) {
			all = append(all, valueText(x))
		}
		all = append(all, strconv.FormatBool(w.Struck(api.Link{Kind: api.LTask, N: n})), strconv.FormatBool(w.Struck(api.Link{Kind: api.LScope, N: n})))
		all = append(all, answersOf(w, n), valueText(v.V), faultText(v.Fault), strconv.FormatBool(w.Pending(n)))
		chain, _ := w.Chain(n)
		for _, l := range chain {
			add(l.Kind, l.N)
		}
		c, _ := w.Chan(n)
		add(len(c.Buffer), len(c.Waiters), c.Dropped)
		for _, y := range c.Waiters {
			add(y.Ticket)
		}
		l, _ := w.Lock(n)
		add(l.Free)
		add(l.Waiting...)
		s, _ := w.Scope(n)
		add(s.Tasks...)
		all = append(all, strconv.FormatBool(s.Over), faultText(s.Fault))
	}
	for _, e := range w.Log() {
		add(e.What, e.Task, e.From, e.To)
	}
	add(w.Delay())
	add(w.Restarts()...)
	all = append(all, timersOf(w))
	return strings.Join(append(all, traceOf(w), outOf(w)), " ")
}

// TestP247Copies checks that a copy that is stepped by the same numbers does the same, and that neither it nor the world changes the other one.
func TestP247Copies(t *testing.T) {
	t.Parallel()
	authors(t, 247, 60, func(a *author, source string) {
		direct, compiled := engines(t, source)
		for _, e := range []*Engine{direct, compiled} {
			w := newWorld(t, e, a.spec())
			w.Run(a.picks(60), a.r.IntN(60))
			before := stateOf(w)
			c, d := w.Copy(), w.Copy()
			if stateOf(c) != before {
				t.Fatalf("%s: %s\n%s", source, before, stateOf(c))
			}
			picks := a.picks(60)
			other := append(slices.Clone(picks[:len(picks)/2]), a.picks(60)...)
			d.Run(other, len(other))
			if now := stateOf(w); now != before {
				t.Fatalf("%s: %s\n%s", source, before, now)
			}
			own := stateOf(d)
			w.Run(picks, len(picks))
			if now := stateOf(c); now != before {
				t.Fatalf("%s: %s\n%s", source, before, now)
			}
			if now := stateOf(d); now != own {
				t.Fatalf("%s: %s\n%s", source, own, now)
			}
			c.Run(picks, len(picks))
			if stateOf(c) != stateOf(w) {
				t.Fatalf("%s: %s\n%s", source, stateOf(w), stateOf(c))
			}
			again := newWorld(t, e, w.Spec())
			again.Run(w.Picks(), len(w.Picks()))
			if stateOf(again) != stateOf(w) {
				t.Fatalf("%s: %s\n%s", source, stateOf(w), stateOf(again))
			}
		}
	})
}

// TestP247Room checks that a world and its copy put what they add to lists with room behind them into memory of their own.
func TestP247Room(t *testing.T) {
	first := askV(api.AAwait, job(1))
	yield := ask(api.AYield)
	e := &Engine{script{asks(yield, yield, yield, askV(api.AReceive, ch(1))), asks(emits(2), sends(1, 5)), asks(emits(3), sends(1, 6)), asks(askN(api.AChan, 0), emits(1), emits(1), emits(1), yield, first), asks(first), asks(first), asks(first), asks(first)}}
	s := plainSpec(0, 1, 2, 3, 4, 5, 6, 7)
	w := newWorld(t, e, s)
	step := func(w *World, tasks ...int) {
		for _, n := range tasks {
			wantStep(t, w, slices.Index(w.Ready(), n), api.OK)
		}
	}
	step(w, 4, 1, 1, 1, 1, 5, 6, 7)
	w.events = slices.Grow(w.events, 9)
	w.picks = slices.Grow(w.picks, 9)
	if x := w.task(1); cap(x.answers) == len(x.answers) || cap(x.waiting) == len(x.waiting) || cap(w.out) == len(w.out) {
		t.Fatalf("%v, %v and %v have no room", x.answers, x.waiting, w.out)
	}
	c := w.Copy()
	step(w, 2, 8)
	step(c, 3, 4)
	w.Run(nil, 100)
	c.Run(nil, 100)
	for _, run := range []*World{w, c} {
		again := newWorld(t, e, s)
		again.Run(run.Picks(), 100)
		if stateOf(run) != stateOf(again) {
			t.Errorf("%s\n%s", stateOf(run), stateOf(again))
		}
	}
}
