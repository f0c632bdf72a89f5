package world

import (
	"math"
	"reflect"
	"slices"
	"strings"
	"testing"

	"seedbed/api"
	"seedbed/syntax"
)

// TestP241Examples checks the chapter's examples, and those of DOC.md.
func TestP241Examples(t *testing.T) {
	a := ` fn a(x int) { sleep x; emit x; }`
	w := run(t, `fn main() { scope { spawn a(1); spawn a(2); } }`+a, plainSpec(0))
	wantStatus(t, w, api.Ended)
	wantTrace(t, "two sleep", w, `0 1 start; 0 1 open 1 -1; 0 2 start 1 1; 0 3 start 1 1; 0 1 leave 1 0; 0 1 wait 17 0; 0 2 wait 2 0; 0 3 wait 2 0;
		1 0 time; 1 2 go 2 0; 1 2 emit =1; 1 2 end; 2 0 time; 2 3 go 2 0; 2 3 emit =2; 2 3 end; 2 1 left 1 0; 2 1 go 17 0; 2 1 end; 2 0 order 0 4`)
	w = run(t, `fn main() { scope { spawn a(1); spawn a(2); throw "x"; } }`+a, plainSpec(0))
	wantTrace(t, "a throw", w, `0 1 start; 0 1 open 1 -1; 0 2 start 1 1; 0 3 start 1 1; 0 1 leave 1 0 !x; 0 1 cancel; 0 2 cancel; 0 3 cancel; 0 1 wait 17 0;
		0 2 go 2 0 !!; 0 2 end !!; 0 3 go 2 0 !!; 0 3 end !!; 0 1 left 1 0 !x; 0 1 go 17 0 !x; 0 1 end !x; 0 0 order 0 4`)
	w = run(t, `fn main() { scope { let t = spawn a(); sleep 3; cancel t; } } fn a() { use r = 7 { sleep 5; } }`, plainSpec(0))
	if log := w.Log(); !slices.Equal(log, []api.Entry{{What: 7, Task: 2, From: 1, To: 2}}) || w.Now() != 3 {
		t.Errorf("the log %v at %d", log, w.Now())
	}
	w = run(t, `fn main() { let c = chan 0; receive c; }`, plainSpec(0))
	wantStatus(t, w, api.Stuck, 1)
	wantTrace(t, "nobody sends", w, `0 1 start; 0 1 make 1 0; 0 1 wait 10 0`)
	s := api.Spec{Rule: api.ROne, Most: 1, Within: 5, Services: []api.Service{{When: api.WAlways}}}
	w = run(t, `fn main() { throw "x"; }`, s)
	wantStatus(t, w, api.Ended)
	wantTrace(t, "restarts", w, `0 1 start; 0 1 end !x; 0 0 order 1 2; 0 2 start; 0 2 end !x; 0 0 order 0 3; 0 0 order 0 4`)
}

// TestP241New checks the errors of New, and what a run begins with.
func TestP241New(t *testing.T) {
	e := &Engine{script{nil, nil}}
	invalid := plainSpec(0)
	invalid.Rule = 0
	for _, x := range []struct {
		e *Engine
		s api.Spec
	}{{nil, plainSpec(0)}, {nil, api.Spec{}}, {e, api.Spec{}}, {e, invalid}, {e, plainSpec(-1)}} {
		if w, err := New(x.e, x.s); w != nil || err != api.ErrArg {
			t.Errorf("New(%v, %v) = %v, %d", x.e, x.s, w, err)
		}
		if w, err := Dispatch(x.e, x.s, 1, nil, 1); w != nil || err != api.ErrArg {
			t.Errorf("Dispatch(%v, %v) = %v, %d", x.e, x.s, w, err)
		}
	}
	s := plainSpec(1, 0, 1)
	w := newWorld(t, e, s)
	wantTrace(t, "New", w, `0 1 start 0 1; 0 2 start; 0 3 start 0 1`)
	wantReady(t, w, 1, 2, 3)
	wantStatus(t, w, api.UnderWay)
	for n, fn := range []int{1, 0, 1} {
		wantView(t, w, n+1, api.View{Fn: fn, Phase: api.QReady})
		if state, at := w.Service(n + 1); state != api.SRuns || at != 0 {
			t.Errorf("Service(%d) = %d, %d", n+1, state, at)
		}
	}
	if w.Now() != 0 || w.Picks() != nil || w.Out() != nil || w.Answers(1) != nil || w.Log() != nil || !reflect.DeepEqual(w.Spec(), s) {
		t.Errorf("%d, %v, %v, %v", w.Now(), w.Picks(), w.Out(), w.Spec())
	}
}

// TestP241Steps checks which task a number means, what Picks has, and how Run counts.
func TestP241Steps(t *testing.T) {
	three := func() *World {
		return play(t, plainSpec(0, 1, 2), asks(emits(1), ask(api.AYield), emits(1)), asks(emits(2)), asks(emits(3), askN(api.ASleep, 4)))
	}
	for _, x := range []struct{ pick, at int }{{0, 0}, {1, 1}, {2, 2}, {3, 0}, {7, 1}, {-1, 2}, {-2, 1}, {-3, 0}, {-4, 2}, {math.MaxInt, 1}, {math.MinInt, 1}} {
		w := three()
		wantStep(t, w, x.pick, api.OK)
		if out := w.Out(); !slices.Equal(out, []api.Value{val(x.at + 1)}) || !slices.Equal(w.Picks(), []int{x.at}) {
			t.Errorf("Step(%d): %v, %v", x.pick, out, w.Picks())
		}
	}
	w := three()
	w.Run([]int{2, 0, 0, 0}, 4)
	wantReady(t, w)
	wantStatus(t, w, api.UnderWay)
	w = three()
	if n := w.Run([]int{-1, 4, 8}, 100); n != 6 {
		t.Errorf("Run = %d", n)
	}
	if outOf(w) != " =3 =1 =1 =2" || !slices.Equal(w.Picks(), []int{2, 0, 0, 0, 0, 0}) || w.Now() != 4 {
		t.Errorf("%v, %v", outOf(w), w.Picks())
	}
	wantStep(t, w, 1, api.ErrNone)
	if n := w.Run([]int{1}, 3); n != 0 || len(w.Picks()) != 6 {
		t.Errorf("Run = %d, %v", n, w.Picks())
	}
	w = three()
	for _, most := range []int{0, -1, math.MinInt} {
		if n := w.Run([]int{1}, most); n != 0 || w.Picks() != nil {
			t.Errorf("Run of %d = %d", most, n)
		}
	}
	if n := w.Run([]int{1, 1, 1, 1}, 2); n != 2 || outOf(w) != " =2 =3" {
		t.Errorf("Run = %d, %v", n, outOf(w))
	}
}

// TestP241Asks checks asks that are no points: one task makes them in one step.
func TestP241Asks(t *testing.T) {
	bad := api.Value{Kind: api.KInt, S: "x"}
	for _, x := range []struct {
		name           string
		asks           []api.Ask
		answers, trace string
	}{
		{"emit", []api.Ask{emits(5), askV(api.AEmit, api.Value{}), askV(api.AEmit, bad), askV(api.AEmit, api.Value{Kind: 9}), askV(api.AEmit, lo(3))}, "ok; ok; ok !kind; ok !kind; ok", "0 1 emit =5; 0 1 emit; 0 1 emit =l3"},
		{"now", []api.Ask{ask(api.ANow)}, "ok =0", ""},
		{"spawn without a scope", []api.Ask{spawns(1)}, "ok !none", ""},
		{"spawn", []api.Ask{opens(0, -1), spawns(1), spawns(7), {Kind: api.ASpawn, Fn: 1, Args: []api.Value{val(1), bad}}, spawns(-1)}, "ok; ok =t2; ok =t3; ok !kind; ok =t4", "0 1 open 1 -1; 0 2 start 1 1; 0 3 start 1 7; 0 4 start 1 -1"},
		{"spawn within a shield", []api.Ask{opens(0, -1), opens(0, -1), ask(api.AShield), spawns(1)}, "ok; ok; ok; ok =t2", "0 1 open 1 -1; 0 1 open 2 -1; 0 1 shield; 0 2 start 2 1"},
		{"cancel of nobody", []api.Ask{askV(api.ACancel, job(2)), askV(api.ACancel, job(0)), askV(api.ACancel, lo(1)), askV(api.ACancel, api.Value{})}, "ok !none; ok !none; ok !kind; ok !kind", ""},
		{"cancel of itself", []api.Ask{askV(api.ACancel, job(1)), askV(api.ACancel, job(1)), emits(1)}, "ok; ok; ok", "0 1 strike 1 0; 0 1 cancel; 0 1 strike 1 0; 0 1 emit =1"},
		{"chan", []api.Ask{askN(api.AChan, 0), {Kind: api.AChan, N: 16, M: 2}, askN(api.AChan, 17), askN(api.AChan, -1), {Kind: api.AChan, M: 3}}, "ok =c1; ok =c2; ok !range; ok !range; ok !range", "0 1 make 1 0; 0 1 make 2 16"},
		{"close", []api.Ask{askN(api.AChan, 1), askV(api.AClose, ch(1)), askV(api.AClose, ch(1)), askV(api.AClose, ch(2)), askV(api.AClose, ch(0)), askV(api.AClose, lo(1))}, "ok =c1; ok; ok; ok !none; ok !none; ok !kind", "0 1 make 1 1; 0 1 close 1 0; 0 1 close 1 0"},
		{"lock", []api.Ask{askN(api.ALock, 1), askN(api.ALock, 16), askN(api.ALock, 0), askN(api.ALock, 17)}, "ok =l1; ok =l2; ok !range; ok !range", "0 1 lock 1 1; 0 1 lock 2 16"},
		{"free of nothing", []api.Ask{askN(api.ALock, 1), askV(api.AFree, lo(1)), askV(api.AFree, lo(2)), askV(api.AFree, job(1))}, "ok =l1; ok !none; ok !none; ok !kind", "0 1 lock 1 1"},
		{"open", []api.Ask{opens(0, -1), opens(1, 0), opens(2, 5), opens(0, api.MaxTime), opens(0, api.MaxTime+1), opens(0, math.MinInt)}, "ok; ok; ok; ok; ok; ok", "0 1 open 1 -1; 0 1 open 2 0; 0 1 open 3 5; 0 1 open 4 1000000000000; 0 1 open 5 -1; 0 1 open 6 -1"},
		{"leave without a scope", []api.Ask{leaves(api.Fault{}), ask(api.AShield), leaves(api.Fault{}), leaves(api.Fault{Kind: 3}), leaves(api.Fault{Text: "x"}), emits(1)}, "ok !none; ok; ok !none; ok !kind; ok !kind; ok", "0 1 shield; 0 1 emit =1"},
		{"leave with a fault that is none", []api.Ask{opens(0, -1), leaves(api.Fault{Kind: api.FCancel, Text: "x"}), emits(1)}, "ok; ok !kind; ok", "0 1 open 1 -1; 0 1 emit =1"},
		{"unveil", []api.Ask{ask(api.AUnveil), ask(api.AShield), ask(api.AShield), ask(api.AUnveil), opens(0, -1), ask(api.AUnveil)}, "ok !none; ok; ok; ok; ok; ok !none", "0 1 shield; 0 1 shield; 0 1 unveil; 0 1 open 1 -1"},
		{"resources", []api.Ask{askN(api.AAcquire, 7), askN(api.AAcquire, 7), askN(api.ARelease, 7), askN(api.AAcquire, 999), askN(api.AAcquire, 1000), askN(api.ARelease, -1), askN(api.ARelease, 8)}, "ok; ok; ok; ok; ok !range; ok !range; ok !none", "0 1 acquire 7 0; 0 1 acquire 7 0; 0 1 release 7 0; 0 1 acquire 999 0"},
		{"asks that there are not", []api.Ask{ask(0), ask(22), ask(-1), ask(math.MaxInt), emits(1)}, "ok !kind; ok !kind; ok !kind; ok !kind; ok", "0 1 emit =1"},
	} {
		w := play(t, plainSpec(0), append(asks(x.asks...), api.Turn{Ask: ask(api.AYield)}), nil)
		wantStep(t, w, 0, api.OK)
		if got := answersOf(w, 1); got != x.answers+"; ok" && got != x.answers+"; ok !!" {
			t.Errorf("%s: %s, want %s", x.name, got, x.answers)
		}
		trace := "0 1 start; "
		if x.trace != "" {
			trace += x.trace + "; "
		}
		got := traceOf(w)
		if got != trace+"0 1 go 1 0" && got != trace+"0 1 go 1 0 !!" {
			t.Errorf("%s: %s, want %s", x.name, got, trace)
		}
		wantView(t, w, 1, api.View{Phase: api.QReady, Asks: len(x.asks) + 1})
	}
}

// TestP241Full checks the limits of the layers below.
func TestP241Full(t *testing.T) {
	for _, x := range []struct {
		ask  api.Ask
		most int
	}{
		{askN(api.AChan, 1), api.MaxChans}, {askN(api.ALock, 1), api.MaxLocks}, {ask(api.AShield), api.MaxShields}, {askN(api.AAcquire, 3), api.MaxHeld}, {opens(0, -1), api.MaxScopes}, {spawns(1), api.MaxTasks - 1},
	} {
		list := slices.Repeat([]api.Ask{x.ask}, x.most+2)
		if x.ask.Kind == api.ASpawn {
			list = append([]api.Ask{opens(0, -1)}, list...)
		}
		w := play(t, plainSpec(0), append(asks(list...), asks(ask(api.AYield))...), nil)
		wantStep(t, w, 0, api.OK)
		if x.ask.Kind == api.AShield && strings.Count(traceOf(w), "shield") != x.most {
			t.Errorf("%s", traceOf(w))
		}
		answers := strings.Split(answersOf(w, 1), "; ")
		answers = answers[len(answers)-x.most-3:]
		for i, a := range answers[:x.most+2] {
			if strings.HasSuffix(a, " !full") != (i >= x.most) || i < x.most && strings.Contains(a, "!") {
				t.Errorf("number %d of %v: %s", i, x.ask, a)
			}
		}
	}
}

// TestP241MaxAsks checks that the ask after the last one that a task can make is not made.
func TestP241MaxAsks(t *testing.T) {
	list := asks(slices.Repeat([]api.Ask{emits(1)}, api.MaxAsks-2)...)
	w := play(t, plainSpec(0), append(asks(opens(0, -1), ask(api.AYield)), append(list, asks(emits(2))...)...))
	w.Run(nil, 10)
	wantView(t, w, 1, api.View{Phase: api.QEnded, Asks: api.MaxAsks, Fault: thrown("full")})
	trace := traceOf(w)
	if !strings.HasSuffix(trace, "emit =1; 0 1 leave 1 0 !full; 0 1 left 1 0 !full; 0 1 go 17 0 !full; 0 1 end !full; 0 0 order 0 4") || len(w.Answers(1)) != api.MaxAsks || len(w.Out()) != api.MaxAsks-2 {
		t.Errorf("%d answers; %s", len(w.Answers(1)), trace)
	}
	w = play(t, plainSpec(0), append(asks(ask(api.AYield), ask(api.AYield)), list...))
	w.Run(nil, 10)
	wantView(t, w, 1, api.View{Phase: api.QEnded, Asks: api.MaxAsks})
}

// TestP241Points checks points that are replied to at once: a task makes one, after some asks, in one step.
func TestP241Points(t *testing.T) {
	after := func(n int) api.Arm { return api.Arm{Op: api.CAfter, N: n} }
	rec := func(c int) api.Arm { return api.Arm{Op: api.CReceive, V: ch(c)} }
	snd := func(c, n int) api.Arm { return api.Arm{Op: api.CSend, V: ch(c), W: val(n)} }
	pick := func(or int, arms ...api.Arm) api.Ask { return api.Ask{Kind: api.ASelect, N: or, Arms: arms} }
	one, struck := askN(api.AChan, 1), askV(api.ACancel, job(1))
	closed := askV(api.AClose, ch(1))
	bad := api.Value{Kind: api.KInt, S: "x"}
	for _, x := range []struct {
		name string
		asks []api.Ask
		want string // the last answer; "" if it waits
	}{
		{"yield", []api.Ask{ask(api.AYield)}, "ok"},
		{"a pending one", []api.Ask{struck, ask(api.AYield)}, "ok !!"},
		{"a pending one behind a shield", []api.Ask{struck, ask(api.AShield), ask(api.AYield)}, "ok"},
		{"no sleep", []api.Ask{askN(api.ASleep, 0)}, "ok"}, {"less", []api.Ask{askN(api.ASleep, -5)}, "ok"}, {"the least", []api.Ask{askN(api.ASleep, math.MinInt)}, "ok"},
		{"sleep", []api.Ask{askN(api.ASleep, 1)}, ""}, {"a long one", []api.Ask{askN(api.ASleep, api.MaxTime)}, ""}, {"too long", []api.Ask{askN(api.ASleep, api.MaxTime+1)}, "ok !full"},
		{"a pending sleep", []api.Ask{struck, askN(api.ASleep, 0)}, "ok !!"},
		{"await nobody", []api.Ask{askV(api.AAwait, job(2))}, "ok !none"}, {"await no task", []api.Ask{askV(api.AAwait, ch(1))}, "ok !kind"}, {"await itself", []api.Ask{askV(api.AAwait, job(1))}, ""},
		{"pending before kind", []api.Ask{struck, askV(api.AAwait, ch(1))}, "ok !!"}, {"pending before none", []api.Ask{struck, askV(api.AAwait, job(9))}, "ok !!"},
		{"send", []api.Ask{one, sends(1, 5)}, "ok"}, {"send without room", []api.Ask{askN(api.AChan, 0), sends(1, 5)}, ""}, {"send to what is closed", []api.Ask{one, closed, sends(1, 5)}, "ok !closed"},
		{"send to none", []api.Ask{sends(1, 5)}, "ok !none"}, {"send to a task", []api.Ask{{Kind: api.ASend, V: job(1), W: val(1)}}, "ok !kind"}, {"send what is not valid", []api.Ask{one, {Kind: api.ASend, V: ch(1), W: bad}}, "ok !kind"},
		{"send a text", []api.Ask{one, {Kind: api.ASend, V: ch(1), W: api.Value{Kind: api.KText, S: "x"}}}, "ok"},
		{"receive nothing", []api.Ask{one, askV(api.AReceive, ch(1))}, ""}, {"receive from what is closed", []api.Ask{one, closed, askV(api.AReceive, ch(1))}, "ok !closed"}, {"receive from none", []api.Ask{askV(api.AReceive, ch(1))}, "ok !none"}, {"receive from a lock", []api.Ask{askV(api.AReceive, lo(1))}, "ok !kind"},
		{"hold", []api.Ask{askN(api.ALock, 1), askV(api.AHold, lo(1))}, "ok"}, {"hold none", []api.Ask{askV(api.AHold, lo(1))}, "ok !none"}, {"hold a channel", []api.Ask{one, askV(api.AHold, ch(1))}, "ok !kind"},
		{"select nothing", []api.Ask{pick(0)}, ""}, {"select else", []api.Ask{pick(1)}, "ok"}, {"an else that is none", []api.Ask{pick(2)}, ""},
		{"select a receive", []api.Ask{one, pick(0, rec(1))}, ""}, {"or else", []api.Ask{one, pick(1, rec(1), after(1))}, "2"}, {"a send", []api.Ask{one, pick(0, rec(1), snd(1, 5))}, "1"}, {"an after", []api.Ask{one, pick(1, after(3), rec(1), after(0))}, "2"},
		{"closed for a select", []api.Ask{one, closed, pick(1, after(3), rec(1))}, "ok !closed"},
		{"an arm with a task", []api.Ask{one, pick(1, snd(1, 1), api.Arm{Op: api.CReceive, V: job(1)})}, "ok !kind"}, {"an arm that sends to a task", []api.Ask{one, pick(1, snd(1, 1), api.Arm{Op: api.CSend, V: job(1)})}, "ok !kind"}, {"an arm that sends what is not valid", []api.Ask{one, pick(1, snd(1, 1), api.Arm{Op: api.CSend, V: ch(1), W: bad})}, "ok !kind"},
		{"an arm that is none", []api.Ask{one, pick(1, snd(1, 1), api.Arm{Op: 4})}, "ok !range"}, {"an arm with no channel", []api.Ask{one, pick(1, snd(1, 1), rec(2))}, "ok !none"}, {"kind before none", []api.Ask{pick(1, rec(2), api.Arm{Op: api.CReceive})}, "ok !kind"},
		{"five arms", []api.Ask{one, pick(1, slices.Repeat([]api.Arm{snd(1, 1)}, 5)...)}, "ok !range"}, {"time of a select", []api.Ask{pick(0, after(api.MaxTime+1))}, "ok !full"},
	} {
		w := play(t, plainSpec(0), asks(x.asks...))
		wantStep(t, w, 0, api.OK)
		answers, before := w.Answers(1), len(x.asks)-1
		kind := x.asks[before].Kind
		last := w.Trace()[len(w.Trace())-1]
		if x.want == "" {
			wantView(t, w, 1, api.View{Phase: api.QWaits, Ask: kind, Asks: before + 1})
			if last != (api.Event{Task: 1, Kind: api.VWait, N: kind}) || len(answers) != before {
				t.Errorf("%s: %s, %s", x.name, answersOf(w, 1), traceOf(w))
			}
			continue
		}
		wantView(t, w, 1, api.View{Phase: api.QReady, Asks: before + 1})
		if len(answers) != before+1 || answerText(answers[before]) != x.want {
			t.Errorf("%s: %s, want %s", x.name, answersOf(w, 1), x.want)
			continue
		}
		if a := answers[before]; last != (api.Event{Task: 1, Kind: api.VGo, N: kind, M: a.Index, V: a.V, Fault: a.Fault}) {
			t.Errorf("%s: %s", x.name, traceOf(w))
		}
	}
}

// TestP241Nil checks nil worlds, and those that were not made by New.
func TestP241Nil(t *testing.T) {
	for _, w := range []*World{nil, {}} {
		err, status := api.ErrNone, api.Ended
		if w == nil {
			err, status = api.ErrArg, 0
		}
		wantStep(t, w, 1, err)
		wantStatus(t, w, status)
		wantReady(t, w)
		if w.Run([]int{1}, 5) != 0 || w.Now() != 0 || w.Trace() != nil || w.Out() != nil || w.Picks() != nil || w.Answers(1) != nil || w.Pending(1) || w.Log() != nil || !reflect.DeepEqual(w.Spec(), api.Spec{}) {
			t.Errorf("world %v", w)
		}
		if v, e := w.Task(1); v != (api.View{}) || e != err {
			t.Errorf("Task = %v, %d", v, e)
		}
		_, one := w.Chan(1)
		_, two := w.Lock(1)
		_, three := w.Scope(1)
		_, four := w.Chain(1)
		if one != api.ErrArg || two != api.ErrArg || three != api.ErrArg || four != api.ErrArg {
			t.Errorf("%d, %d, %d, %d", one, two, three, four)
		}
		if s, at := w.Service(1); s != 0 || at != 0 {
			t.Errorf("Service = %d, %d", s, at)
		}
		if (w.Copy() == nil) != (w == nil) {
			t.Error("Copy")
		}
	}
}

// TestP241None checks what there is not.
func TestP241None(t *testing.T) {
	w := play(t, plainSpec(0), asks(askN(api.AChan, 3), askN(api.ALock, 2), opens(1, 4), opens(2, 4), opens(0, 4), leaves(api.Fault{}), leaves(api.Fault{}), leaves(api.Fault{}), ask(api.AYield)))
	w.Run(nil, 1)
	for n, supervised := range []bool{true, false, false} {
		if s, err := w.Scope(n + 1); s.Supervised != supervised || err != api.OK {
			t.Errorf("Scope(%d) = %v, %d", n+1, s, err)
		}
	}
	for _, n := range []int{0, -1, 4, math.MaxInt, math.MinInt} {
		v, one := w.Task(n)
		c, two := w.Chan(n)
		l, three := w.Lock(n)
		s, four := w.Scope(n)
		_, five := w.Chain(n)
		if one != api.ErrNone || two != api.ErrNone || three != api.ErrNone || four != api.ErrNone || five != api.ErrNone || w.Answers(n) != nil || w.Pending(n) {
			t.Errorf("%d: %v %v %v %v", n, v, c, l, s)
		}
		if state, at := w.Service(n); state != 0 || at != 0 {
			t.Errorf("Service(%d) = %d, %d", n, state, at)
		}
	}
	c, one := w.Chan(1)
	l, two := w.Lock(1)
	s, three := w.Scope(1)
	chain, four := w.Chain(1)
	if c.Cap != 3 || l.Permits != 2 || s.Owner != 1 || !s.Supervised || s.Over || !slices.Equal(chain, []api.Link{{Kind: api.LScope, N: 2}, {Kind: api.LScope, N: 1}, {Kind: api.LTask, N: 1}}) || one+two+three+four != 0 {
		t.Errorf("%v, %v, %v, %v", c, l, s, chain)
	}
}

// TestP241Engines checks what errors of the layers of an engine come to.
func TestP241Engines(t *testing.T) {
	loop := `fn main() { emit 1; while true { } } fn b(x int) { }`
	direct, compiled := engines(t, loop)
	for _, e := range []*Engine{direct, compiled} {
		w := newWorld(t, e, plainSpec(0, 1, 2))
		w.Run(nil, 10)
		wantView(t, w, 1, api.View{Phase: api.QEnded, Asks: 1, Fault: thrown("fuel")})
		wantView(t, w, 2, api.View{Fn: 1, Phase: api.QEnded, Fault: thrown("bad")})
		wantView(t, w, 3, api.View{Fn: 2, Phase: api.QEnded, Fault: thrown("bad")})
	}
	self := []api.Stmt{{Op: api.SWhile}}
	self[0].Body = self
	for _, e := range []*Engine{{}, Direct(api.Program{}), Direct(api.Program{Funcs: []api.Func{{Name: "main", Body: self}}}), Compiled(api.Code{}), Compiled(api.Code{Funcs: []api.FnCode{{Name: "main"}}})} {
		w := newWorld(t, e, plainSpec(0))
		w.Run(nil, 10)
		wantTrace(t, "bad", w, `0 1 start; 0 1 end !bad; 0 0 order 0 4`)
	}
}

// TestP241Memory checks that arguments are not kept, and that results share no memory with the world.
func TestP241Memory(t *testing.T) {
	p, _, _ := syntax.Parse(`fn main() { } fn a(x int) { emit x; let y = now; sleep 1; let z = now; yield; emit 2; scope { yield; } }`)
	s := plainSpec(0, 1)
	s.Services[1].Args = []api.Value{val(1)}
	w := newWorld(t, Direct(p), s)
	p.Funcs[1].Body[0].Op = api.SYield
	s.Services[1].Fn, s.Services[1].Args[0] = 5, val(9)
	w.Run([]int{1, 0, 0, 0, 0}, 5)
	if outOf(w) != " =1 =2" {
		t.Errorf("Out = %s", outOf(w))
	}
	before := traceOf(w) + answersOf(w, 2)
	spec := w.Spec()
	spec.Services[1].Args[0] = val(8)
	clear(spec.Services)
	clear(w.Trace())
	clear(w.Out())
	clear(w.Picks())
	clear(w.Answers(2))
	if now := traceOf(w) + answersOf(w, 2); now != before || outOf(w) != " =1 =2" || !slices.Equal(w.Picks(), []int{1, 0, 0, 0, 0}) || w.Spec().Services[1].Args[0] != val(1) {
		t.Errorf("%s, before %s; %v", now, before, w.Picks())
	}
	_, e := engines(t, `fn main() { let x = 1; try { throw "x"; } catch e { x = 2; } let y = 3; yield; emit x; emit y; }`)
	c := e.source.(compiled).c
	e = Compiled(c)
	clear(c.Funcs[0].Guards)
	for at := range c.Funcs[0].Code {
		in := &c.Funcs[0].Code[at]
		clear(in.L)
		*in = api.Instr{}
	}
	w = newWorld(t, e, plainSpec(0))
	w.Run(nil, 5)
	if outOf(w) != " =2 =3" {
		t.Errorf("Out = %s", outOf(w))
	}
}
