package world

import (
	"slices"
	"testing"

	"seedbed/api"
)

// scene is a script with its trace.
type scene struct {
	name   string
	s      api.Spec
	picks  []int
	script [][]api.Turn
	trace  string
}

func check(t *testing.T, scenes []scene) {
	t.Helper()
	for _, x := range scenes {
		w := play(t, x.s, x.script...)
		w.Run(x.picks, 100)
		wantTrace(t, x.name, w, x.trace)
	}
}

func after(turns []api.Turn, last api.Turn) []api.Turn { return append(turns, last) }

// TestP241Deals checks who goes on when a channel is used or closed, or a permit given back.
func TestP241Deals(t *testing.T) {
	receives, holds, frees := askV(api.AReceive, ch(1)), askV(api.AHold, lo(1)), askV(api.AFree, lo(1))
	both := api.Ask{Kind: api.ASelect, Arms: []api.Arm{{Op: api.CAfter, N: 9}, {Op: api.CReceive, V: ch(1)}}}
	check(t, []scene{
		{"a send to one that waits", plainSpec(0, 1), nil, [][]api.Turn{asks(askN(api.AChan, 0), receives), asks(sends(1, 5))}, `0 1 start; 0 2 start 0 1; 0 1 make 1 0; 0 1 wait 10 0; 0 2 go 9 0; 0 1 go 10 0 =5; 0 1 end; 0 2 end; 0 0 order 0 4`},
		{"a receive from one that waits", plainSpec(0, 1), nil, [][]api.Turn{asks(askN(api.AChan, 0), sends(1, 5)), asks(receives)}, `0 1 start; 0 2 start 0 1; 0 1 make 1 0; 0 1 wait 9 0; 0 2 go 10 0 =5; 0 1 go 9 0; 0 1 end; 0 2 end; 0 0 order 0 4`},
		{"a select that waits", plainSpec(0, 1), nil, [][]api.Turn{asks(askN(api.AChan, 0), both), asks(sends(1, 5))}, `0 1 start; 0 2 start 0 1; 0 1 make 1 0; 0 1 wait 15 0; 0 2 go 9 0; 0 1 go 15 1 =5; 0 1 end; 0 2 end; 0 0 order 0 4`},
		{"a select that sends", plainSpec(0, 1), nil, [][]api.Turn{asks(askN(api.AChan, 0), api.Ask{Kind: api.ASelect, Arms: []api.Arm{{Op: api.CAfter, N: 9}, {Op: api.CSend, V: ch(1), W: val(4)}}}), asks(receives)}, `0 1 start; 0 2 start 0 1; 0 1 make 1 0; 0 1 wait 15 0; 0 2 go 10 0 =4; 0 1 go 15 1; 0 1 end; 0 2 end; 0 0 order 0 4`},
		{"a close", plainSpec(0, 1, 2), nil, [][]api.Turn{asks(askN(api.AChan, 0), receives), asks(both), asks(askV(api.AClose, ch(1)), emits(3))}, `0 1 start; 0 2 start 0 1; 0 3 start 0 2; 0 1 make 1 0; 0 1 wait 10 0; 0 2 wait 15 0; 0 3 close 1 0; 0 1 go 10 0 !closed; 0 2 go 15 0 !closed; 0 3 emit =3; 0 3 end; 0 1 end; 0 2 end; 0 0 order 0 4`},
		{"a permit", plainSpec(0, 1, 2), nil, [][]api.Turn{asks(askN(api.ALock, 1), holds, ask(api.AYield), frees, emits(1)), asks(holds, frees), asks(holds, frees)}, `0 1 start; 0 2 start 0 1; 0 3 start 0 2; 0 1 lock 1 1; 0 1 go 13 0; 0 1 go 1 0; 0 1 free 1 0; 0 1 emit =1; 0 1 end; 0 2 go 13 0; 0 2 free 1 0; 0 2 end; 0 3 go 13 0; 0 3 free 1 0; 0 3 end; 0 0 order 0 4`},
	})
}

// TestP241Leave checks the ends of scopes.
func TestP241Leave(t *testing.T) {
	open, over, x := opens(0, -1), leaves(api.Fault{}), thrown("x")
	sleeps := askN(api.ASleep, 5)
	check(t, []scene{
		{"at once", plainSpec(0), nil, [][]api.Turn{asks(open, over, emits(1))}, `0 1 start; 0 1 open 1 -1; 0 1 leave 1 0; 0 1 left 1 0; 0 1 go 17 0; 0 1 emit =1; 0 1 end; 0 0 order 0 4`},
		{"at once with a throw", plainSpec(0), nil, [][]api.Turn{asks(open, leaves(x), emits(1))}, `0 1 start; 0 1 open 1 -1; 0 1 leave 1 0 !x; 0 1 left 1 0 !x; 0 1 go 17 0 !x; 0 1 emit =1; 0 1 end; 0 0 order 0 4`},
		{"at once with a cancellation", plainSpec(0), nil, [][]api.Turn{asks(open, leaves(cancelled()), emits(1))}, `0 1 start; 0 1 open 1 -1; 0 1 leave 1 0 !!; 0 1 left 1 0 !!; 0 1 go 17 0 !!; 0 1 emit =1; 0 1 end; 0 0 order 0 4`},
		{"a task runs", plainSpec(0), nil, [][]api.Turn{asks(open, spawns(1), over, emits(1)), asks(emits(2))}, `0 1 start; 0 1 open 1 -1; 0 2 start 1 1; 0 1 leave 1 0; 0 1 wait 17 0; 0 2 emit =2; 0 2 end; 0 1 left 1 0; 0 1 go 17 0; 0 1 emit =1; 0 1 end; 0 0 order 0 4`},
		{"a task fails", plainSpec(0), nil, [][]api.Turn{asks(open, spawns(1), over, emits(1)), {ends(api.Value{}, x)}}, `0 1 start; 0 1 open 1 -1; 0 2 start 1 1; 0 1 leave 1 0; 0 1 wait 17 0; 0 2 end !x; 0 1 left 1 0 !x; 0 1 go 17 0 !x; 0 1 emit =1; 0 1 end; 0 0 order 0 4`},
		{"a task of a supervised scope fails", plainSpec(0), nil, [][]api.Turn{asks(opens(1, -1), spawns(1), over, emits(1)), {ends(api.Value{}, x)}}, `0 1 start; 0 1 open 1 -1; 0 2 start 1 1; 0 1 leave 1 0; 0 1 wait 17 0; 0 2 end !x; 0 1 left 1 0; 0 1 go 17 0; 0 1 emit =1; 0 1 end; 0 0 order 0 4`},
		{"a throw cancels", plainSpec(0), []int{0, 1}, [][]api.Turn{asks(open, spawns(1), ask(api.AYield), leaves(x), emits(1)), asks(sleeps, emits(2))}, `0 1 start; 0 1 open 1 -1; 0 2 start 1 1; 0 1 go 1 0; 0 2 wait 2 0; 0 1 leave 1 0 !x; 0 1 cancel; 0 2 cancel; 0 2 go 2 0 !!; 0 1 wait 17 0; 0 2 emit =2; 0 2 end; 0 1 left 1 0 !x; 0 1 go 17 0 !x; 0 1 emit =1; 0 1 end; 0 0 order 0 4`},
		{"a task that fails cancels the others", plainSpec(0), []int{0, 1, 1, 1}, [][]api.Turn{asks(open, spawns(1), spawns(2), sleeps, leaves(cancelled()), emits(1)), asks(sleeps, emits(2)), {ends(api.Value{}, x)}}, `0 1 start; 0 1 open 1 -1; 0 2 start 1 1; 0 3 start 1 2; 0 1 wait 2 0; 0 3 end !x; 0 1 cancel; 0 1 go 2 0 !!; 0 2 cancel; 0 2 go 2 0 !!; 0 2 emit =2; 0 2 end; 0 1 leave 1 0 !!; 0 1 left 1 0 !x; 0 1 go 17 0 !x; 0 1 emit =1; 0 1 end; 0 0 order 0 4`},
		{"late", plainSpec(0), nil, [][]api.Turn{asks(opens(0, 2), spawns(1), sleeps, leaves(cancelled()), emits(1)), asks(sleeps, emits(2))}, `0 1 start; 0 1 open 1 2; 0 2 start 1 1; 0 1 wait 2 0; 0 2 wait 2 0; 2 0 time; 2 0 late 1 0; 2 1 cancel; 2 1 go 2 0 !!; 2 2 cancel; 2 2 go 2 0 !!; 2 1 leave 1 0 !!; 2 1 wait 17 0; 2 2 emit =2; 2 2 end; 2 1 left 1 0 !late; 2 1 go 17 0 !late; 2 1 emit =1; 2 1 end; 2 0 order 0 4`},
		{"late as it leaves", plainSpec(0), nil, [][]api.Turn{asks(opens(0, 2), spawns(1), over, emits(1)), asks(ask(api.AShield), sleeps, emits(2), ask(api.AUnveil))}, `0 1 start; 0 1 open 1 2; 0 2 start 1 1; 0 1 leave 1 0; 0 1 wait 17 0; 0 2 shield; 0 2 wait 2 0; 2 0 time; 2 0 late 1 0; 2 1 cancel; 5 0 time; 5 2 go 2 0; 5 2 emit =2; 5 2 unveil; 5 2 end; 5 1 left 1 0 !late; 5 1 go 17 0 !late; 5 1 emit =1; 5 1 end; 5 0 order 0 4`},
	})
}

// TestP241Done checks tasks that are done with something open.
func TestP241Done(t *testing.T) {
	open, x := opens(0, -1), thrown("x")
	sleeps := askN(api.ASleep, 5)
	check(t, []scene{
		{"a value", plainSpec(0), nil, [][]api.Turn{{ends(val(3), api.Fault{})}}, `0 1 start; 0 1 end =3; 0 0 order 0 4`},
		{"a value that is not valid", plainSpec(0), nil, [][]api.Turn{{ends(api.Value{Kind: 1, S: "x"}, api.Fault{})}}, `0 1 start; 0 1 end; 0 0 order 0 4`},
		{"shields and scopes", plainSpec(0), nil, [][]api.Turn{after(asks(ask(api.AShield), open, ask(api.AShield), ask(api.AShield), open), ends(val(3), api.Fault{}))}, `0 1 start; 0 1 shield; 0 1 open 1 -1; 0 1 shield; 0 1 shield; 0 1 open 2 -1; 0 1 leave 2 0; 0 1 left 2 0; 0 1 go 17 0; 0 1 unveil; 0 1 unveil; 0 1 leave 1 0; 0 1 left 1 0; 0 1 go 17 0; 0 1 unveil; 0 1 end =3; 0 0 order 0 4`},
		{"a throw", plainSpec(0), nil, [][]api.Turn{after(asks(open, ask(api.AShield), open), ends(api.Value{}, x))}, `0 1 start; 0 1 open 1 -1; 0 1 shield; 0 1 open 2 -1; 0 1 leave 2 0 !x; 0 1 left 2 0 !x; 0 1 go 17 0 !x; 0 1 unveil; 0 1 leave 1 0 !x; 0 1 left 1 0 !x; 0 1 go 17 0 !x; 0 1 end !x; 0 0 order 0 4`},
		{"leaks", plainSpec(0), nil, [][]api.Turn{asks(askN(api.AAcquire, 4), open, askN(api.AAcquire, 5), askN(api.AAcquire, 6), askN(api.ARelease, 5))}, `0 1 start; 0 1 acquire 4 0; 0 1 open 1 -1; 0 1 acquire 5 0; 0 1 acquire 6 0; 0 1 release 5 0; 0 1 leave 1 0; 0 1 left 1 0; 0 1 go 17 0; 0 1 leak 6 0; 0 1 leak 4 0; 0 1 end; 0 0 order 0 4`},
		{"a task runs", plainSpec(0), nil, [][]api.Turn{after(asks(ask(api.AShield), open, open, spawns(1), ask(api.AShield)), ends(val(3), api.Fault{})), asks(sleeps)}, `0 1 start; 0 1 shield; 0 1 open 1 -1; 0 1 open 2 -1; 0 2 start 2 1; 0 1 shield; 0 1 unveil; 0 1 leave 2 0; 0 1 wait 17 0; 0 2 wait 2 0; 5 0 time; 5 2 go 2 0; 5 2 end; 5 1 left 2 0; 5 1 go 17 0; 5 1 leave 1 0; 5 1 left 1 0; 5 1 go 17 0; 5 1 unveil; 5 1 end =3; 5 0 order 0 4`},
		{"a task fails", plainSpec(0), nil, [][]api.Turn{after(asks(open, open, spawns(1)), ends(val(3), api.Fault{})), {ends(api.Value{}, x)}}, `0 1 start; 0 1 open 1 -1; 0 1 open 2 -1; 0 2 start 2 1; 0 1 leave 2 0; 0 1 wait 17 0; 0 2 end !x; 0 1 left 2 0 !x; 0 1 go 17 0 !x; 0 1 leave 1 0 !x; 0 1 left 1 0 !x; 0 1 go 17 0 !x; 0 1 end !x; 0 0 order 0 4`},
		{"its own fault stays", plainSpec(0), []int{0, 1}, [][]api.Turn{after(asks(open, spawns(1), ask(api.AYield)), ends(api.Value{}, thrown("y"))), after(asks(sleeps), ends(api.Value{}, x))}, `0 1 start; 0 1 open 1 -1; 0 2 start 1 1; 0 1 go 1 0; 0 2 wait 2 0; 0 1 leave 1 0 !y; 0 1 cancel; 0 2 cancel; 0 2 go 2 0 !!; 0 1 wait 17 0; 0 2 end !x; 0 1 left 1 0 !y; 0 1 go 17 0 !y; 0 1 end !y; 0 0 order 0 4`},
		{"its cancellation stays", plainSpec(0), []int{0, 1}, [][]api.Turn{after(asks(open, spawns(1), ask(api.AYield)), ends(api.Value{}, cancelled())), after(asks(sleeps), ends(api.Value{}, x))}, `0 1 start; 0 1 open 1 -1; 0 2 start 1 1; 0 1 go 1 0; 0 2 wait 2 0; 0 1 leave 1 0 !!; 0 1 cancel; 0 2 cancel; 0 2 go 2 0 !!; 0 1 wait 17 0; 0 2 end !x; 0 1 left 1 0 !x; 0 1 go 17 0 !x; 0 1 end !!; 0 0 order 0 4`},
	})
}

// TestP241Await checks what those get who wait for a task, and when.
func TestP241Await(t *testing.T) {
	second := askV(api.AAwait, job(2))
	text := api.Value{Kind: api.KText, S: "a"}
	ended := func(last api.Turn) [][]api.Turn { return [][]api.Turn{asks(ask(api.AYield), second), {last}} }
	waits := func(last api.Turn) [][]api.Turn { return [][]api.Turn{asks(second), {last}} }
	none := api.Fault{}
	check(t, []scene{
		{"it has ended with a number", plainSpec(0, 1), []int{0, 1}, ended(ends(val(-4), none)), `0 1 start; 0 2 start 0 1; 0 1 go 1 0; 0 2 end =-4; 0 1 go 6 0 =-4; 0 1 end; 0 0 order 0 4`},
		{"with a text", plainSpec(0, 1), []int{0, 1}, ended(ends(text, none)), `0 1 start; 0 2 start 0 1; 0 1 go 1 0; 0 2 end ="a"; 0 1 go 6 0 =0; 0 1 end; 0 0 order 0 4`},
		{"with nothing", plainSpec(0, 1), []int{0, 1}, ended(ends(api.Value{}, none)), `0 1 start; 0 2 start 0 1; 0 1 go 1 0; 0 2 end; 0 1 go 6 0 =0; 0 1 end; 0 0 order 0 4`},
		{"with a throw", plainSpec(0, 1), []int{0, 1}, ended(ends(api.Value{}, thrown("x"))), `0 1 start; 0 2 start 0 1; 0 1 go 1 0; 0 2 end !x; 0 1 go 6 0 !x; 0 1 end; 0 0 order 0 4`},
		{"with an empty throw", plainSpec(0, 1), []int{0, 1}, ended(ends(api.Value{}, thrown(""))), `0 1 start; 0 2 start 0 1; 0 1 go 1 0; 0 2 end !; 0 1 go 6 0 !; 0 1 end; 0 0 order 0 4`},
		{"with a cancellation", plainSpec(0, 1), []int{0, 1}, ended(ends(api.Value{}, cancelled())), `0 1 start; 0 2 start 0 1; 0 1 go 1 0; 0 2 end !!; 0 1 go 6 0 !cancelled; 0 1 end; 0 0 order 0 4`},
		{"it ends with a number", plainSpec(0, 1), nil, waits(ends(val(-4), none)), `0 1 start; 0 2 start 0 1; 0 1 wait 6 0; 0 2 end =-4; 0 1 go 6 0 =-4; 0 1 end; 0 0 order 0 4`},
		{"it ends with a truth value", plainSpec(0, 1), nil, waits(ends(api.Value{Kind: api.KBool, N: 1}, none)), `0 1 start; 0 2 start 0 1; 0 1 wait 6 0; 0 2 end =true; 0 1 go 6 0 =0; 0 1 end; 0 0 order 0 4`},
		{"it ends with a throw", plainSpec(0, 1), nil, waits(ends(api.Value{}, thrown("x"))), `0 1 start; 0 2 start 0 1; 0 1 wait 6 0; 0 2 end !x; 0 1 go 6 0 !x; 0 1 end; 0 0 order 0 4`},
		{"it ends with a cancellation", plainSpec(0, 1), nil, waits(ends(api.Value{}, cancelled())), `0 1 start; 0 2 start 0 1; 0 1 wait 6 0; 0 2 end !!; 0 1 go 6 0 !cancelled; 0 1 end; 0 0 order 0 4`},
		{"in the order in which they began to", plainSpec(2, 1, 0, 0), []int{1, 2, 0, 0}, [][]api.Turn{asks(second), asks(ask(api.AYield), ask(api.AYield)), asks(ask(api.AYield), second)}, `0 1 start 0 2; 0 2 start 0 1; 0 3 start; 0 4 start; 0 2 go 1 0; 0 3 wait 6 0; 0 1 go 1 0; 0 1 wait 6 0; 0 2 go 1 0; 0 2 end; 0 3 go 6 0 =0; 0 1 go 6 0 =0; 0 1 end; 0 3 end; 0 4 go 6 0 =0; 0 4 end; 0 0 order 0 4`},
		{"one is cancelled before", plainSpec(0, 1, 0, 0), []int{0, 1, 1, 1}, [][]api.Turn{asks(second), after(asks(askV(api.ACancel, job(3)), ask(api.AYield)), ends(val(1), none))}, `0 1 start; 0 2 start 0 1; 0 3 start; 0 4 start; 0 1 wait 6 0; 0 3 wait 6 0; 0 4 wait 6 0; 0 2 strike 3 0; 0 3 cancel; 0 3 go 6 0 !!; 0 2 go 1 0; 0 2 end =1; 0 1 go 6 0 =1; 0 4 go 6 0 =1; 0 1 end; 0 3 end; 0 4 end; 0 0 order 0 4`},
		{"it is done, but leaves a scope", plainSpec(0, 1), nil, [][]api.Turn{asks(second), after(asks(opens(0, -1), spawns(2)), ends(val(8), none)), asks(askN(api.ASleep, 2))}, `0 1 start; 0 2 start 0 1; 0 1 wait 6 0; 0 2 open 1 -1; 0 3 start 1 2; 0 2 leave 1 0; 0 2 wait 17 0; 0 3 wait 2 0; 2 0 time; 2 3 go 2 0; 2 3 end; 2 2 left 1 0; 2 2 go 17 0; 2 2 end =8; 2 1 go 6 0 =8; 2 1 end; 2 0 order 0 4`},
		{"its end cancels one that waits for it", plainSpec(0), nil, [][]api.Turn{asks(opens(0, -1), spawns(1), spawns(2), askV(api.AAwait, job(3)), leaves(none)), asks(askV(api.AAwait, job(3))), after(asks(ask(api.AYield)), ends(api.Value{}, thrown("x")))}, `0 1 start; 0 1 open 1 -1; 0 2 start 1 1; 0 3 start 1 2; 0 1 wait 6 0; 0 2 wait 6 0; 0 3 go 1 0; 0 3 end !x; 0 1 cancel; 0 1 go 6 0 !!; 0 2 cancel; 0 2 go 6 0 !!; 0 1 leave 1 0; 0 1 wait 17 0; 0 2 end; 0 1 left 1 0 !x; 0 1 go 17 0 !x; 0 1 end; 0 0 order 0 4`},
	})
}

// TestP241Cancel checks what a task is withdrawn from that is cancelled, and whom a cancellation does not reach.
func TestP241Cancel(t *testing.T) {
	second := askV(api.ACancel, job(2))
	by := func(list ...api.Ask) [][]api.Turn {
		return [][]api.Turn{asks(askN(api.AChan, 0), askN(api.ALock, 1), askV(api.AHold, lo(1)), ask(api.AYield), second, emits(1)), asks(append(list, emits(2), askN(api.ASleep, 1), emits(3))...)}
	}
	picks := []int{0, 1, 0, 0}
	check(t, []scene{
		{"asleep", plainSpec(0, 1), picks, by(askN(api.ASleep, 9)), `0 1 start; 0 2 start 0 1; 0 1 make 1 0; 0 1 lock 1 1; 0 1 go 13 0; 0 2 wait 2 0; 0 1 go 1 0; 0 1 strike 2 0; 0 2 cancel; 0 2 go 2 0 !!; 0 1 emit =1; 0 1 end; 0 2 emit =2; 0 2 go 2 0 !!; 0 2 emit =3; 0 2 end; 0 0 order 0 4`},
		{"at a channel", plainSpec(0, 1), picks, by(sends(1, 4)), `0 1 start; 0 2 start 0 1; 0 1 make 1 0; 0 1 lock 1 1; 0 1 go 13 0; 0 2 wait 9 0; 0 1 go 1 0; 0 1 strike 2 0; 0 2 cancel; 0 2 go 9 0 !!; 0 1 emit =1; 0 1 end; 0 2 emit =2; 0 2 go 2 0 !!; 0 2 emit =3; 0 2 end; 0 0 order 0 4`},
		{"at a select", plainSpec(0, 1), picks, by(api.Ask{Kind: api.ASelect, Arms: []api.Arm{{Op: api.CReceive, V: ch(1)}, {Op: api.CAfter, N: 3}}}), `0 1 start; 0 2 start 0 1; 0 1 make 1 0; 0 1 lock 1 1; 0 1 go 13 0; 0 2 wait 15 0; 0 1 go 1 0; 0 1 strike 2 0; 0 2 cancel; 0 2 go 15 0 !!; 0 1 emit =1; 0 1 end; 0 2 emit =2; 0 2 go 2 0 !!; 0 2 emit =3; 0 2 end; 0 0 order 0 4`},
		{"at a lock", plainSpec(0, 1), picks, by(askV(api.AHold, lo(1))), `0 1 start; 0 2 start 0 1; 0 1 make 1 0; 0 1 lock 1 1; 0 1 go 13 0; 0 2 wait 13 0; 0 1 go 1 0; 0 1 strike 2 0; 0 2 cancel; 0 2 go 13 0 !!; 0 1 emit =1; 0 1 end; 0 2 emit =2; 0 2 go 2 0 !!; 0 2 emit =3; 0 2 end; 0 0 order 0 4`},
		{"at a task", plainSpec(0, 1), picks, by(askV(api.AAwait, job(1))), `0 1 start; 0 2 start 0 1; 0 1 make 1 0; 0 1 lock 1 1; 0 1 go 13 0; 0 2 wait 6 0; 0 1 go 1 0; 0 1 strike 2 0; 0 2 cancel; 0 2 go 6 0 !!; 0 1 emit =1; 0 1 end; 0 2 emit =2; 0 2 go 2 0 !!; 0 2 emit =3; 0 2 end; 0 0 order 0 4`},
		{"it is ready", plainSpec(0, 1), picks, by(ask(api.AYield)), `0 1 start; 0 2 start 0 1; 0 1 make 1 0; 0 1 lock 1 1; 0 1 go 13 0; 0 2 go 1 0; 0 1 go 1 0; 0 1 strike 2 0; 0 2 cancel; 0 1 emit =1; 0 1 end; 0 2 emit =2; 0 2 go 2 0 !!; 0 2 emit =3; 0 2 end; 0 0 order 0 4`},
		{"it has not begun", plainSpec(0, 1), nil, by(), `0 1 start; 0 2 start 0 1; 0 1 make 1 0; 0 1 lock 1 1; 0 1 go 13 0; 0 1 go 1 0; 0 1 strike 2 0; 0 2 cancel; 0 1 emit =1; 0 1 end; 0 2 emit =2; 0 2 go 2 0 !!; 0 2 emit =3; 0 2 end; 0 0 order 0 4`},
		{"it has a shield", plainSpec(0, 1), picks, by(ask(api.AShield), askN(api.ASleep, 9), ask(api.AUnveil)), `0 1 start; 0 2 start 0 1; 0 1 make 1 0; 0 1 lock 1 1; 0 1 go 13 0; 0 2 shield; 0 2 wait 2 0; 0 1 go 1 0; 0 1 strike 2 0; 0 1 emit =1; 0 1 end; 9 0 time; 9 2 go 2 0; 9 2 unveil; 9 2 emit =2; 9 2 go 2 0 !!; 9 2 emit =3; 9 2 end; 9 0 order 0 4`},
		{"it leaves a scope", plainSpec(0, 1), picks, append(by(opens(0, -1), spawns(2), leaves(api.Fault{})), asks(ask(api.AShield), askN(api.ASleep, 2))), `0 1 start; 0 2 start 0 1; 0 1 make 1 0; 0 1 lock 1 1; 0 1 go 13 0; 0 2 open 1 -1; 0 3 start 1 2; 0 2 leave 1 0; 0 2 wait 17 0; 0 1 go 1 0; 0 1 strike 2 0; 0 2 cancel; 0 3 cancel; 0 1 emit =1; 0 1 end; 0 3 shield; 0 3 wait 2 0; 2 0 time; 2 3 go 2 0; 2 3 unveil; 2 3 end; 2 2 left 1 0; 2 2 go 17 0; 2 2 emit =2; 2 2 go 2 0 !!; 2 2 emit =3; 2 2 end; 2 0 order 0 4`},
		{"it has ended", plainSpec(0, 1), []int{1, 1, 1, 0}, [][]api.Turn{asks(second, emits(1)), asks()}, `0 1 start; 0 2 start 0 1; 0 2 end; 0 1 strike 2 0; 0 1 emit =1; 0 1 end; 0 0 order 0 4`},
		{"itself", plainSpec(0), nil, [][]api.Turn{asks(askV(api.ACancel, job(1)), opens(0, -1), leaves(api.Fault{}), askN(api.ASleep, 3), ask(api.AYield))}, `0 1 start; 0 1 strike 1 0; 0 1 cancel; 0 1 open 1 -1; 0 1 leave 1 0; 0 1 left 1 0; 0 1 go 17 0; 0 1 go 2 0 !!; 0 1 go 1 0 !!; 0 1 end; 0 0 order 0 4`},
		{"its tasks", plainSpec(0, 1), picks, append(by(opens(0, -1), spawns(2), spawns(2), askN(api.ASleep, 9)), asks(askN(api.ASleep, 2))), `0 1 start; 0 2 start 0 1; 0 1 make 1 0; 0 1 lock 1 1; 0 1 go 13 0; 0 2 open 1 -1; 0 3 start 1 2; 0 4 start 1 2; 0 2 wait 2 0; 0 1 go 1 0; 0 1 strike 2 0; 0 2 cancel; 0 2 go 2 0 !!; 0 3 cancel; 0 4 cancel; 0 1 emit =1; 0 1 end; 0 2 emit =2; 0 2 go 2 0 !!; 0 2 emit =3; 0 2 leave 1 0; 0 2 wait 17 0; 0 3 go 2 0 !!; 0 3 end; 0 4 go 2 0 !!; 0 4 end; 0 2 left 1 0; 0 2 go 17 0; 0 2 end; 0 0 order 0 4`},
		{"its tasks that are spawned later", plainSpec(0, 1), picks, append(by(opens(0, -1), askN(api.ASleep, 9), spawns(2)), asks(askN(api.ASleep, 2))), `0 1 start; 0 2 start 0 1; 0 1 make 1 0; 0 1 lock 1 1; 0 1 go 13 0; 0 2 open 1 -1; 0 2 wait 2 0; 0 1 go 1 0; 0 1 strike 2 0; 0 2 cancel; 0 2 go 2 0 !!; 0 1 emit =1; 0 1 end; 0 3 start 1 2; 0 2 emit =2; 0 2 go 2 0 !!; 0 2 emit =3; 0 2 leave 1 0; 0 2 wait 17 0; 0 3 go 2 0 !!; 0 3 end; 0 2 left 1 0; 0 2 go 17 0; 0 2 end; 0 0 order 0 4`},
	})
}

// TestP241Withdrawn checks that who is cancelled waits nowhere any more.
func TestP241Withdrawn(t *testing.T) {
	for _, waits := range []api.Ask{sends(1, 4), askV(api.AReceive, ch(1)), askV(api.AHold, lo(1)), askN(api.ASleep, 5), {Kind: api.ASelect, Arms: []api.Arm{{Op: api.CReceive, V: ch(1)}, {Op: api.CAfter, N: 5}}}} {
		w := play(t, plainSpec(0, 1), asks(askN(api.AChan, 0), askN(api.ALock, 1), askV(api.AHold, lo(1)), ask(api.AYield), askV(api.ACancel, job(2)), ask(api.AYield)), asks(waits, opens(0, -1)))
		w.Run([]int{0, 1, 0, 0}, 4)
		c, _ := w.Chan(1)
		l, _ := w.Lock(1)
		if next, ok := w.board.Next(); ok || len(c.Waiters) > 0 || len(l.Waiting) > 0 {
			t.Errorf("%v: %v, %v, %d", waits, c, l, next)
		}
		wantView(t, w, 2, api.View{Fn: 1, Phase: api.QReady, Asks: 1})
	}
}

// TestP241Time checks the order of what happens when time goes on.
func TestP241Time(t *testing.T) {
	none := api.Fault{}
	sleeps := func(n int) api.Ask { return askN(api.ASleep, n) }
	due := plainSpec(0, 1)
	due.Most, due.Within, due.Base, due.Cap = 1, 100, 2, 2
	due.Services[0].When = api.WAlways
	check(t, []scene{
		{"in the order in which they began to wait", plainSpec(0, 1, 2), []int{2, 1, 0}, [][]api.Turn{asks(sleeps(3)), asks(sleeps(3)), asks(sleeps(2))}, `0 1 start; 0 2 start 0 1; 0 3 start 0 2; 0 3 wait 2 0; 0 2 wait 2 0; 0 1 wait 2 0; 2 0 time; 2 3 go 2 0; 2 3 end; 3 0 time; 3 2 go 2 0; 3 1 go 2 0; 3 1 end; 3 2 end; 3 0 order 0 4`},
		{"a deadline at once", plainSpec(0), nil, [][]api.Turn{asks(opens(0, 0), sleeps(5), leaves(cancelled()))}, `0 1 start; 0 1 open 1 0; 0 1 wait 2 0; 0 0 time; 0 0 late 1 0; 0 1 cancel; 0 1 go 2 0 !!; 0 1 leave 1 0 !!; 0 1 left 1 0 !late; 0 1 go 17 0 !late; 0 1 end; 0 0 order 0 4`},
		{"a deadline at once does not come before others are stepped", plainSpec(0), nil, [][]api.Turn{asks(opens(0, 0), ask(api.AYield), leaves(none))}, `0 1 start; 0 1 open 1 0; 0 1 go 1 0; 0 1 leave 1 0; 0 1 left 1 0; 0 1 go 17 0; 0 1 end; 0 0 order 0 4`},
		{"a deadline of a scope that is over", plainSpec(0), nil, [][]api.Turn{asks(opens(0, 2), leaves(none), sleeps(3))}, `0 1 start; 0 1 open 1 2; 0 1 leave 1 0; 0 1 left 1 0; 0 1 go 17 0; 0 1 wait 2 0; 3 0 time; 3 1 go 2 0; 3 1 end; 3 0 order 0 4`},
		{"deadlines at the same time", plainSpec(0, 1), []int{1, 0}, [][]api.Turn{asks(opens(0, 2), opens(1, 2), sleeps(2), leaves(cancelled()), leaves(cancelled())), asks(opens(0, 2), sleeps(1), sleeps(1), leaves(none))}, `0 1 start; 0 2 start 0 1; 0 2 open 1 2; 0 2 wait 2 0; 0 1 open 2 2; 0 1 open 3 2; 0 1 wait 2 0; 1 0 time; 1 2 go 2 0; 1 2 wait 2 0; 2 0 time; 2 0 late 1 0; 2 0 late 2 0; 2 0 late 3 0; 2 2 cancel; 2 2 go 2 0 !!; 2 1 cancel; 2 1 go 2 0 !!; 2 1 leave 3 0 !!; 2 1 left 3 0 !late; 2 1 go 17 0 !late; 2 1 leave 2 0 !!; 2 1 left 2 0 !late; 2 1 go 17 0 !late; 2 1 end; 2 2 leave 1 0; 2 2 left 1 0 !late; 2 2 go 17 0 !late; 2 2 end; 2 0 order 0 4`},
		{"deadlines at two times", plainSpec(0), nil, [][]api.Turn{asks(opens(0, 3), opens(0, 2), ask(api.AShield), sleeps(4), ask(api.AUnveil), leaves(none), leaves(none))}, `0 1 start; 0 1 open 1 3; 0 1 open 2 2; 0 1 shield; 0 1 wait 2 0; 2 0 time; 2 0 late 2 0; 3 0 time; 3 0 late 1 0; 4 0 time; 4 1 go 2 0; 4 1 unveil; 4 1 leave 2 0; 4 1 left 2 0 !late; 4 1 go 17 0 !late; 4 1 leave 1 0; 4 1 left 1 0 !late; 4 1 go 17 0 !late; 4 1 end; 4 0 order 0 4`},
		{"a deal of one that is cancelled by a deadline", plainSpec(0, 1), nil, [][]api.Turn{asks(opens(0, 2), api.Ask{Kind: api.ASelect, Arms: []api.Arm{{Op: api.CAfter, N: 2}}}, leaves(cancelled())), asks(sleeps(2))}, `0 1 start; 0 2 start 0 1; 0 1 open 1 2; 0 1 wait 15 0; 0 2 wait 2 0; 2 0 time; 2 0 late 1 0; 2 1 cancel; 2 1 go 15 0 !!; 2 2 go 2 0; 2 1 leave 1 0 !!; 2 1 left 1 0 !late; 2 1 go 17 0 !late; 2 1 end; 2 2 end; 2 0 order 0 4`},
		{"a service that is due, and others", due, nil, [][]api.Turn{asks(sleeps(1)), asks(opens(0, 3), sleeps(3), leaves(none))}, `0 1 start; 0 2 start 0 1; 0 1 wait 2 0; 0 2 open 1 3; 0 2 wait 2 0; 1 0 time; 1 1 go 2 0; 1 1 end; 1 0 order 1 2; 3 0 time; 3 0 late 1 0; 3 2 cancel; 3 2 go 2 0 !!; 3 3 start; 3 2 leave 1 0; 3 2 left 1 0 !late; 3 2 go 17 0 !late; 3 2 end; 3 3 wait 2 0; 4 0 time; 4 3 go 2 0; 4 3 end; 4 0 order 0 3; 4 0 order 0 4`},
		{"a service that is due soon", due, nil, [][]api.Turn{nil, asks(sleeps(1), sleeps(3))}, `0 1 start; 0 2 start 0 1; 0 1 end; 0 0 order 1 2; 0 2 wait 2 0; 1 0 time; 1 2 go 2 0; 1 2 wait 2 0; 2 0 time; 2 3 start; 2 3 end; 2 0 order 0 3; 2 0 order 2 1; 2 2 cancel; 2 2 go 2 0 !!; 2 2 end; 2 0 order 0 4`},
		{"a select", plainSpec(0), nil, [][]api.Turn{asks(askN(api.AChan, 0), api.Ask{Kind: api.ASelect, Arms: []api.Arm{{Op: api.CReceive, V: ch(1)}, {Op: api.CAfter, N: 4}, {Op: api.CAfter, N: 4}}})}, `0 1 start; 0 1 make 1 0; 0 1 wait 15 0; 4 0 time; 4 1 go 15 1; 4 1 end; 4 0 order 0 4`},
		{"the last time", plainSpec(0), nil, [][]api.Turn{asks(sleeps(api.MaxTime), sleeps(1), opens(0, 1), opens(0, 0), sleeps(0), ask(api.ANow), sleeps(-1), leaves(none), leaves(none))}, `0 1 start; 0 1 wait 2 0; 1000000000000 0 time; 1000000000000 1 go 2 0; 1000000000000 1 go 2 0 !full; 1000000000000 1 open 1 -1; 1000000000000 1 open 2 1000000000000; 1000000000000 1 go 2 0; 1000000000000 1 go 2 0; 1000000000000 1 leave 2 0; 1000000000000 1 left 2 0; 1000000000000 1 go 17 0; 1000000000000 1 leave 1 0; 1000000000000 1 left 1 0; 1000000000000 1 go 17 0; 1000000000000 1 end; 1000000000000 0 order 0 4`},
	})
}

// TestP241Nested checks that all that follows of an effect comes before the next one, and before what else an end leads to.
func TestP241Nested(t *testing.T) {
	none := api.Fault{}
	again := plainSpec(0, 1, 2)
	again.Most = 1
	again.Services[1].When = api.WAlways
	check(t, []scene{
		{"an owner ends as its task does", again, []int{1}, [][]api.Turn{asks(askV(api.AAwait, job(4))), asks(opens(0, -1), spawns(3)), asks(askV(api.AAwait, job(2))), asks(ask(api.AYield))}, `0 1 start; 0 2 start 0 1; 0 3 start 0 2; 0 2 open 1 -1; 0 4 start 1 3; 0 2 leave 1 0; 0 2 wait 17 0; 0 1 wait 6 0; 0 3 wait 6 0; 0 4 go 1 0; 0 4 end; 0 2 left 1 0; 0 2 go 17 0; 0 2 end; 0 3 go 6 0 =0; 0 0 order 2 2; 0 5 start 0 1; 0 1 go 6 0 =0; 0 1 end; 0 3 end; 0 5 open 2 -1; 0 6 start 2 3; 0 5 leave 2 0; 0 5 wait 17 0; 0 6 go 1 0; 0 6 end; 0 5 left 2 0; 0 5 go 17 0; 0 5 end; 0 0 order 0 3; 0 0 order 0 4`},
		{"two owners end", plainSpec(0, 3), nil, [][]api.Turn{asks(opens(0, -1), spawns(1)), asks(opens(0, -1), spawns(2)), asks(askN(api.ASleep, 1)), asks(askV(api.AAwait, job(3)), emits(1), askV(api.AAwait, job(4)))}, `0 1 start; 0 2 start 0 3; 0 1 open 1 -1; 0 3 start 1 1; 0 1 leave 1 0; 0 1 wait 17 0; 0 2 wait 6 0; 0 3 open 2 -1; 0 4 start 2 2; 0 3 leave 2 0; 0 3 wait 17 0; 0 4 wait 2 0; 1 0 time; 1 4 go 2 0; 1 4 end; 1 3 left 2 0; 1 3 go 17 0; 1 3 end; 1 1 left 1 0; 1 1 go 17 0; 1 1 end; 1 2 go 6 0 =0; 1 2 emit =1; 1 2 go 6 0 =0; 1 2 end; 1 0 order 0 4`},
		{"an owner that fails cancels others before one goes on that waits for its task", plainSpec(0, 4), []int{0, 1, 0, 0, 0}, [][]api.Turn{asks(opens(0, -1), spawns(1), spawns(3), leaves(none)), asks(opens(0, -1), spawns(2)), {ends(api.Value{}, thrown("x"))}, asks(askV(api.AAwait, job(5))), asks(ask(api.AYield), askV(api.AAwait, job(5)))}, `0 1 start; 0 2 start 0 4; 0 1 open 1 -1; 0 3 start 1 1; 0 4 start 1 3; 0 1 leave 1 0; 0 1 wait 17 0; 0 3 open 2 -1; 0 5 start 2 2; 0 3 leave 2 0; 0 3 wait 17 0; 0 2 go 1 0; 0 2 wait 6 0; 0 4 wait 6 0; 0 5 end !x; 0 3 left 2 0 !x; 0 3 go 17 0 !x; 0 3 end !x; 0 1 cancel; 0 4 cancel; 0 4 go 6 0 !!; 0 2 go 6 0 !x; 0 2 end; 0 4 end; 0 1 left 1 0 !x; 0 1 go 17 0 !x; 0 1 end; 0 0 order 0 4`},
	})
}

// TestP241Orders checks what is done with the orders of the warden.
func TestP241Orders(t *testing.T) {
	spec := func(rule, most, base int, when ...int) api.Spec {
		s := api.Spec{Rule: rule, Most: most, Within: 10, Base: base, Cap: 2 * base}
		for fn, w := range when {
			s.Services = append(s.Services, api.Service{Fn: fn, When: w})
		}
		return s
	}
	sleeps := askN(api.ASleep, 9)
	throws := after(asks(ask(api.AYield)), ends(api.Value{}, thrown("x")))
	shielded := asks(ask(api.AShield), askN(api.ASleep, 3), ask(api.AUnveil))
	always := api.WAlways
	check(t, []scene{
		{"one", spec(api.ROne, 1, 0, always, always), []int{1, 1, 0}, [][]api.Turn{asks(sleeps), throws}, `0 1 start; 0 2 start 0 1; 0 2 go 1 0; 0 2 end !x; 0 0 order 2 2; 0 3 start 0 1; 0 1 wait 2 0; 0 3 go 1 0; 0 3 end !x; 0 0 order 0 3; 0 0 order 1 1; 0 1 cancel; 0 1 go 2 0 !!; 0 1 end; 0 0 order 0 4`},
		{"all", spec(api.RAll, 1, 0, always, always, always), []int{0, 1, 1, 1}, [][]api.Turn{asks(sleeps), throws, asks(sleeps)}, `0 1 start; 0 2 start 0 1; 0 3 start 0 2; 0 1 wait 2 0; 0 3 wait 2 0; 0 2 go 1 0; 0 2 end !x; 0 0 order 3 1; 0 3 cancel; 0 3 go 2 0 !!; 0 0 order 1 1; 0 1 cancel; 0 1 go 2 0 !!; 0 1 end; 0 3 end; 0 0 order 1 2; 0 4 start; 0 0 order 2 2; 0 5 start 0 1; 0 0 order 3 2; 0 6 start 0 2; 0 4 wait 2 0; 0 5 go 1 0; 0 5 end !x; 0 0 order 0 3; 0 0 order 3 1; 0 6 cancel; 0 0 order 1 1; 0 4 cancel; 0 4 go 2 0 !!; 0 4 end; 0 6 go 2 0 !!; 0 6 end; 0 0 order 0 4`},
		{"the rest", spec(api.RRest, 1, 0, always, always, always), []int{0, 1, 1, 1}, [][]api.Turn{asks(sleeps), throws, asks(sleeps)}, `0 1 start; 0 2 start 0 1; 0 3 start 0 2; 0 1 wait 2 0; 0 3 wait 2 0; 0 2 go 1 0; 0 2 end !x; 0 0 order 3 1; 0 3 cancel; 0 3 go 2 0 !!; 0 3 end; 0 0 order 2 2; 0 4 start 0 1; 0 0 order 3 2; 0 5 start 0 2; 0 4 go 1 0; 0 4 end !x; 0 0 order 0 3; 0 0 order 3 1; 0 5 cancel; 0 0 order 1 1; 0 1 cancel; 0 1 go 2 0 !!; 0 1 end; 0 5 go 2 0 !!; 0 5 end; 0 0 order 0 4`},
		{"later", spec(api.RAll, 1, 2, api.WFailed, api.WFailed), []int{0, 1, 1}, [][]api.Turn{shielded, throws}, `0 1 start; 0 2 start 0 1; 0 1 shield; 0 1 wait 2 0; 0 2 go 1 0; 0 2 end !x; 0 0 order 1 1; 3 0 time; 3 1 go 2 0; 3 1 unveil; 3 1 end; 3 0 order 1 2; 3 0 order 2 2; 5 0 time; 5 3 start; 5 4 start 0 1; 5 3 shield; 5 3 wait 2 0; 5 4 go 1 0; 5 4 end !x; 5 0 order 0 3; 5 0 order 1 1; 8 0 time; 8 3 go 2 0; 8 3 unveil; 8 3 end; 8 0 order 0 4`},
		{"never", spec(api.ROne, 0, 0, api.WNever, api.WFailed), nil, [][]api.Turn{throws, after(nil, ends(api.Value{}, cancelled()))}, `0 1 start; 0 2 start 0 1; 0 1 go 1 0; 0 1 end !x; 0 2 end !!; 0 0 order 0 4`},
		{"it gives up", spec(api.ROne, 0, 0, always, always, always), []int{0, 1, 1}, [][]api.Turn{asks(sleeps), throws, asks(ask(api.AYield), sleeps)}, `0 1 start; 0 2 start 0 1; 0 3 start 0 2; 0 1 wait 2 0; 0 3 go 1 0; 0 3 wait 2 0; 0 2 go 1 0; 0 2 end !x; 0 0 order 0 3; 0 0 order 3 1; 0 3 cancel; 0 3 go 2 0 !!; 0 0 order 1 1; 0 1 cancel; 0 1 go 2 0 !!; 0 1 end; 0 3 end; 0 0 order 0 4`},
		{"a service with tasks is stopped", spec(api.RAll, 1, 0, always, always), []int{0, 1, 2, 1, 1}, [][]api.Turn{asks(opens(0, -1), spawns(2), sleeps, leaves(cancelled())), throws, asks(sleeps)}, `0 1 start; 0 2 start 0 1; 0 1 open 1 -1; 0 3 start 1 2; 0 1 wait 2 0; 0 3 wait 2 0; 0 2 go 1 0; 0 2 end !x; 0 0 order 1 1; 0 1 cancel; 0 1 go 2 0 !!; 0 3 cancel; 0 3 go 2 0 !!; 0 3 end; 0 1 leave 1 0 !!; 0 1 left 1 0 !!; 0 1 go 17 0 !!; 0 1 end; 0 0 order 1 2; 0 4 start; 0 0 order 2 2; 0 5 start 0 1; 0 4 open 2 -1; 0 6 start 2 2; 0 4 wait 2 0; 0 5 go 1 0; 0 5 end !x; 0 0 order 0 3; 0 0 order 1 1; 0 4 cancel; 0 4 go 2 0 !!; 0 6 cancel; 0 4 leave 2 0 !!; 0 4 wait 17 0; 0 6 go 2 0 !!; 0 6 end; 0 4 left 2 0 !!; 0 4 go 17 0 !!; 0 4 end; 0 0 order 0 4`},
	})
}

// TestP241Room checks services for which there is no task left.
func TestP241Room(t *testing.T) {
	always := api.Service{When: api.WAlways}
	for _, x := range []struct {
		rule, most, base, spawned int
		trace                     string
	}{
		{api.ROne, 1, 0, 61, `0 64 end; 0 1 left 1 0; 0 1 go 17 0; 0 1 go 1 0; 0 1 end; 0 0 order 1 2; 0 0 order 0 3; 0 0 order 3 1; 0 3 cancel; 0 3 go 2 0 !!; 0 0 order 2 1; 0 2 cancel; 0 2 go 2 0 !!; 0 2 go 2 0 !!; 0 2 end; 0 3 go 2 0 !!; 0 3 end; 0 0 order 0 4`},
		{api.ROne, 4, 3, 61, `0 64 end; 0 1 left 1 0; 0 1 go 17 0; 0 1 go 1 0; 0 1 end; 0 0 order 1 2; 1 0 time; 1 2 go 2 0; 1 3 go 2 0; 1 2 wait 2 0; 1 3 wait 2 0; 2 0 time; 2 2 go 2 0; 2 3 go 2 0; 2 2 end; 2 0 order 2 2; 2 3 end; 2 0 order 3 2; 3 0 time; 3 0 order 1 2; 8 0 time; 8 0 order 0 3; 8 0 order 0 4`},
		{api.RAll, 3, 0, 61, `0 64 end; 0 1 left 1 0; 0 1 go 17 0; 0 1 go 1 0; 0 1 end; 0 0 order 3 1; 0 3 cancel; 0 3 go 2 0 !!; 0 0 order 2 1; 0 2 cancel; 0 2 go 2 0 !!; 0 2 go 2 0 !!; 0 2 end; 0 3 go 2 0 !!; 0 3 end; 0 0 order 1 2; 0 0 order 1 2; 0 0 order 1 2; 0 0 order 0 3; 0 0 order 0 4`},
		{api.RAll, 3, 0, 60, `0 63 end; 0 1 left 1 0; 0 1 go 17 0; 0 1 go 1 0; 0 1 end; 0 0 order 3 1; 0 3 cancel; 0 3 go 2 0 !!; 0 0 order 2 1; 0 2 cancel; 0 2 go 2 0 !!; 0 2 go 2 0 !!; 0 2 end; 0 3 go 2 0 !!; 0 3 end; 0 0 order 1 2; 0 64 start 0 1; 0 0 order 2 2; 0 0 order 1 1; 0 64 cancel; 0 64 open 2 -1; 0 64 leave 2 0; 0 64 left 2 0; 0 64 go 17 0; 0 64 go 1 0 !!; 0 64 end; 0 0 order 1 2; 0 0 order 1 2; 0 0 order 0 3; 0 0 order 0 4`},
		{api.RAll, 2, 2, 60, `0 63 end; 0 1 left 1 0; 0 1 go 17 0; 0 1 go 1 0; 0 1 end; 0 0 order 3 1; 0 3 cancel; 0 3 go 2 0 !!; 0 0 order 2 1; 0 2 cancel; 0 2 go 2 0 !!; 0 2 go 2 0 !!; 0 2 end; 0 3 go 2 0 !!; 0 3 end; 0 0 order 1 2; 0 0 order 2 2; 0 0 order 3 2; 2 0 time; 2 64 start 0 1; 2 0 order 1 1; 2 64 cancel; 2 64 open 2 -1; 2 64 leave 2 0; 2 64 left 2 0; 2 64 go 17 0; 2 64 go 1 0 !!; 2 64 end; 2 0 order 1 2; 2 0 order 2 2; 2 0 order 3 2; 6 0 time; 6 0 order 0 3; 6 0 order 0 4`},
	} {
		s := api.Spec{Rule: x.rule, Most: x.most, Within: 100, Base: x.base, Cap: 2 * x.base, Services: []api.Service{always, always, always}}
		s.Services[0].Fn, s.Services[1].Fn, s.Services[2].Fn = 1, 2, 2
		list := append(asks(opens(1, -1)), asks(slices.Repeat([]api.Ask{spawns(0)}, x.spawned)...)...)
		w := play(t, s, nil, append(list, asks(leaves(api.Fault{}), ask(api.AYield))...), asks(askN(api.ASleep, 1), askN(api.ASleep, 1)))
		w.Run(nil, 100)
		last := slices.IndexFunc(w.events, func(e api.Event) bool { return e.Kind == api.VLeft })
		w.events = w.events[last-1:]
		wantTrace(t, "room", w, x.trace)
	}
}

// TestP241Args checks that tasks, services that are started again among them, get their arguments.
func TestP241Args(t *testing.T) {
	s := api.Spec{Rule: api.ROne, Most: 1, Within: 9, Services: []api.Service{{Fn: 1, Args: []api.Value{val(4), {Kind: api.KText, S: "x"}}, When: api.WAlways}}}
	w := run(t, `fn main() { } fn a(n int, e text) { emit n; emit e; scope { spawn b(n + 1); } } fn b(n int) { emit n; }`, s)
	if out := outOf(w); out != ` =4 ="x" =5 =4 ="x" =5` {
		t.Errorf("Out = %s", out)
	}
}
