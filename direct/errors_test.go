package direct

import (
	"math"
	"slices"
	"strings"
	"testing"

	"seedbed/api"
	"seedbed/kinds"
)

// wantNone checks that Next, All and Alone all return an error.
func wantNone(t *testing.T, p api.Program, fn int, args []api.Value, answers []api.Answer, most int, want api.Errno) {
	t.Helper()
	wantError(t, p, fn, args, answers, want)
	if turns, err := Alone(p, fn, args, most); err != want || len(turns) != 0 {
		t.Errorf("Alone(%d, %v, %d) = %s, %d, want %d", fn, args, most, showAll(turns), err, want)
	}
}

// TestP81Checked checks that errors of kinds.Check come before all others.
func TestP81Checked(t *testing.T) {
	bad := []api.Answer{{Index: 5}}
	many := make([]api.Answer, api.MaxAsks+1)
	programs := []api.Program{{}, {Funcs: []api.Func{{Name: "main", Body: []api.Stmt{{Op: 99}}}}}}
	for _, source := range []string{"fn main() { emit x; }", "fn f() { }", "fn main() { } fn main() { }", "fn main() flow { }", "fn main(x int) { }", "fn main() { break; }", "fn main() { emit 1 + true; }", "fn main() { } fn f() int { }", "fn main() { f(1); } fn f() { }"} {
		programs = append(programs, parsed(t, source))
	}
	for _, p := range programs {
		_, want := kinds.Check(p)
		if want == api.OK {
			t.Fatalf("%v is sound", p)
		}
		for _, fn := range []int{0, -1, 9} {
			wantNone(t, p, fn, []api.Value{{Kind: 9}}, bad, 0, want)
			wantNone(t, p, fn, nil, many, 5, want)
		}
	}
}

// TestP81Args checks functions that there are not, and arguments that do not fit.
func TestP81Args(t *testing.T) {
	bad, many := []api.Answer{{Index: 5}}, make([]api.Answer, api.MaxAsks+1)
	p := parsed(t, "fn main() { } fn f(x int, s text) { while true { } } fn g(x int) flow { } fn h() flow { }")
	one, text := num(1), api.Value{Kind: api.KText, S: "a"}
	for _, c := range []struct {
		fn   int
		args []api.Value
		want api.Errno
	}{
		{-1, nil, api.ErrArg}, {4, nil, api.ErrArg}, {math.MinInt, []api.Value{{Kind: 9}}, api.ErrArg}, {math.MaxInt, nil, api.ErrArg},
		{0, []api.Value{one}, api.ErrCount}, {0, []api.Value{channel(1)}, api.ErrCount}, {1, nil, api.ErrCount}, {1, []api.Value{one}, api.ErrCount}, {1, []api.Value{one, text, text}, api.ErrCount}, {1, []api.Value{one, text, channel(1)}, api.ErrCount}, {1, []api.Value{{Kind: 9}}, api.ErrCount},
		{1, []api.Value{text, one}, api.ErrKind}, {1, []api.Value{one, {Kind: api.KText, S: "\n"}}, api.ErrKind}, {1, []api.Value{num(api.MaxInt + 1), text}, api.ErrKind}, {1, []api.Value{{}, text}, api.ErrKind}, {1, []api.Value{one, {Kind: 9}}, api.ErrKind},
		{2, nil, api.ErrArg}, {2, []api.Value{one}, api.ErrArg}, {2, []api.Value{one, one}, api.ErrArg}, {2, []api.Value{channel(1), one}, api.ErrArg}, {2, []api.Value{text, {}}, api.ErrArg}, {2, []api.Value{one, channel(0)}, api.ErrArg}, {2, []api.Value{one, {Kind: api.KChan, N: 1, S: "a"}}, api.ErrArg}, {2, []api.Value{one, channel(api.MaxInt + 1)}, api.ErrArg}, {2, []api.Value{one, {Kind: api.KTask, N: 1}}, api.ErrArg}, {2, []api.Value{one, one, one}, api.ErrArg},
		{2, []api.Value{channel(1)}, api.ErrCount}, {2, []api.Value{one, one, channel(1)}, api.ErrCount}, {2, []api.Value{text, channel(1)}, api.ErrKind}, {2, []api.Value{channel(1), channel(1)}, api.ErrKind}, {3, nil, api.ErrArg}, {3, []api.Value{one}, api.ErrArg}, {3, []api.Value{one, channel(1)}, api.ErrCount},
	} {
		wantNone(t, p, c.fn, c.args, nil, 5, c.want)
		wantNone(t, p, c.fn, c.args, bad, 0, c.want)
		wantNone(t, p, c.fn, c.args, many, api.MaxAsks+1, c.want)
	}
}

// TestP81Full checks the number of replies.
func TestP81Full(t *testing.T) {
	p := parsed(t, "fn main() { while true { emit 1; } }")
	replies := make([]api.Answer, api.MaxAsks+1)
	wantError(t, p, 0, nil, replies, api.ErrFull)
	wantError(t, parsed(t, "fn main() { while true { } }"), 0, nil, replies, api.ErrFull)
	replies[0].Index = 1
	wantError(t, p, 0, nil, replies, api.ErrFull)
	wantError(t, parsed(t, "fn main() { }"), 0, nil, make([]api.Answer, 100000), api.ErrFull)
	turns, err := All(p, 0, nil, make([]api.Answer, api.MaxAsks))
	if len(turns) != api.MaxAsks+1 || err != api.OK || show(turns[api.MaxAsks]) != "emit 1" {
		t.Errorf("All = %d turns, %d", len(turns), err)
	}
}

// TestP81Answer checks replies that do not fit, or are left.
func TestP81Answer(t *testing.T) {
	good, bad := api.Answer{}, api.Answer{V: num(1)}
	p := parsed(t, "fn main() { emit 1; emit 2; }")
	wantError(t, p, 0, nil, []api.Answer{bad}, api.ErrAnswer)
	wantError(t, p, 0, nil, []api.Answer{good, bad}, api.ErrAnswer)
	wantError(t, p, 0, nil, []api.Answer{bad, good, good}, api.ErrAnswer)
	wantError(t, p, 0, nil, []api.Answer{good, good, good}, api.ErrAnswer)
	wantError(t, p, 0, nil, []api.Answer{good, good, bad}, api.ErrAnswer)
	wantError(t, p, 0, nil, []api.Answer{good, good, good, good}, api.ErrAnswer)
	wantError(t, parsed(t, "fn main() { }"), 0, nil, []api.Answer{good}, api.ErrAnswer)
	thrown := api.Answer{Fault: api.Fault{Kind: api.FThrow, Text: "x"}}
	wantError(t, p, 0, nil, []api.Answer{thrown, good}, api.ErrAnswer)
	wantError(t, p, 0, nil, []api.Answer{{Fault: api.Fault{Kind: api.FCancel}}}, api.ErrAnswer)
	// What comes first in the coroutine counts.
	endless := parsed(t, "fn main() { emit 1; while true { } }")
	wantError(t, endless, 0, nil, []api.Answer{bad}, api.ErrAnswer)
	wantError(t, endless, 0, nil, []api.Answer{good, bad}, api.ErrFuel)
	wantError(t, endless, 0, nil, []api.Answer{thrown, bad}, api.ErrAnswer)
	flow := parsed(t, "fn main() { } fn f() flow { }")
	wantError(t, flow, 1, []api.Value{channel(1)}, []api.Answer{bad}, api.ErrAnswer)
	wantError(t, flow, 1, []api.Value{channel(1)}, []api.Answer{good, good}, api.ErrAnswer)
}

// TestP83Alone checks the turns of coroutines that get the usual replies.
func TestP83Alone(t *testing.T) {
	for _, c := range []struct {
		source string
		most   int
		want   string
	}{
		{"fn main() { use r = 7 { sleep 5; } }", 10, "acquire 7; sleep 5; release 7; done"},
		{"fn main() { use r = 7 { sleep 5; } }", 4, "acquire 7; sleep 5; release 7; done"},
		{"fn main() { use r = 7 { sleep 5; } }", 3, "acquire 7; sleep 5; release 7"},
		{"fn main() { use r = 7 { sleep 5; } }", 1, "acquire 7"},
		{"fn main() { }", 1, "done"}, {"fn main() { }", api.MaxAsks, "done"}, {"fn main() { throw \"x\"; }", 2, "done !x"},
		{"fn main() { let c = chan 0; let d = chan 0; let k = now; emit c; emit d; emit k; }", 9, "chan 0 0; chan 0 0; now; emit chan#1; emit chan#1; emit 2; done"},
		{"fn main() { emit 0; emit 0; emit 0; let c = chan 0; let l = lock 1; let x = receive c; emit c; emit l; emit x; }", 20, "emit 0; emit 0; emit 0; chan 0 0; lock 1; receive chan#3; emit chan#3; emit lock#4; emit 5; done"},
		{"fn main() { let t = spawn main(); let x = await t; emit x; emit t; }", 20, "spawn 0; await task#1; emit 1; emit task#1; done"},
		{"fn main() { let c = chan 0; select { after 1 { } else { } } select { receive x from c { emit x; } else { } } select { else { emit 9; } } }", 20, "chan 0 0; select (3 unit unit 1) 1; select (1 chan#1 unit 0) 1; emit 2; select 1; emit 9; done"},
		{"fn main() { each x from f() { emit x; if x > 4 { break; } } } fn f() flow { }", 20, "open 0 -1; chan 0 0; spawn 1 chan#1; receive chan#1; emit 3; receive chan#1; emit 5; cancel task#2; leave; done"},
	} {
		turns, err := Alone(parsed(t, c.source), 0, nil, c.most)
		if showAll(turns) != c.want || err != api.OK {
			t.Errorf("Alone(%s, %d) = %s, %d, want %s", c.source, c.most, showAll(turns), err, c.want)
		}
	}
	endless := parsed(t, "fn main() { while true { emit 1; } }")
	if turns, err := Alone(endless, 0, nil, api.MaxAsks); len(turns) != api.MaxAsks || err != api.OK {
		t.Errorf("Alone = %d turns, %d", len(turns), err)
	}
	turns, err := Alone(parsed(t, "fn main() { } fn f(n int) flow { produce n; }"), 1, []api.Value{num(5), channel(3)}, 9)
	if showAll(turns) != "send chan#3 5; close chan#3; done" || err != api.OK {
		t.Errorf("Alone = %s, %d", showAll(turns), err)
	}
}

// TestP83Errors checks numbers of turns, and fuel.
func TestP83Errors(t *testing.T) {
	for _, source := range []string{"fn main() { }", "fn main() { while true { } }"} {
		for _, most := range []int{0, -1, api.MaxAsks + 1, math.MinInt, math.MaxInt} {
			if turns, err := Alone(parsed(t, source), 0, nil, most); len(turns) != 0 || err != api.ErrArg {
				t.Errorf("Alone(%s, %d) = %s, %d", source, most, showAll(turns), err)
			}
		}
	}
	p := parsed(t, "fn main() { emit 1; emit 2; while true { } }")
	for most, want := range map[int]string{1: "emit 1", 2: "emit 1; emit 2"} {
		if turns, err := Alone(p, 0, nil, most); showAll(turns) != want || err != api.OK {
			t.Errorf("Alone(%d) = %s, %d", most, showAll(turns), err)
		}
	}
	for _, most := range []int{3, 400} {
		if turns, err := Alone(p, 0, nil, most); len(turns) != 0 || err != api.ErrFuel {
			t.Errorf("Alone(%d) = %s, %d", most, showAll(turns), err)
		}
	}
}

// TestSlots checks that programs are taken without their slots, and TestMemory that arguments are not changed or kept.
func TestSlots(t *testing.T) {
	p := parsed(t, "fn main() { let x = 1; f(x); } fn f(y int) { emit y; }")
	q, _ := kinds.Check(p)
	turn, err := Next(q, 0, nil, nil)
	if show(turn) != "emit 1" || err != api.OK {
		t.Errorf("Next = %s, %d", show(turn), err)
	}
	q.Funcs[0].Body[0].Slot, q.Funcs[0].Body[1].Index, q.Funcs[0].Vars = 77, -5, 900
	if turn, err = Next(q, 0, nil, nil); show(turn) != "emit 1" || err != api.OK {
		t.Errorf("Next = %s, %d", show(turn), err)
	}
}

func TestMemory(t *testing.T) {
	p := parsed(t, "fn main() { } fn f(x int, c chan) { x = 9; spawn f(x, c); spawn f(x, c); select { send c, x { } } select { send c, x { } } }")
	args := []api.Value{num(1), channel(2)}
	answers := []api.Answer{{V: api.Value{Kind: api.KTask, N: 1}}, {V: api.Value{Kind: api.KTask, N: 2}}, {}}
	turns, err := All(p, 1, args, answers)
	if len(turns) != 4 || err != api.OK || !slices.Equal(args, []api.Value{num(1), channel(2)}) {
		t.Fatalf("All = %s, %d, %v", showAll(turns), err, args)
	}
	want := showAll(turns[1:2]) + showAll(turns[3:])
	args[0], args[1] = api.Value{}, api.Value{}
	turns[0].Ask.Args[0] = api.Value{}
	turns[0].Ask.Args = append(turns[0].Ask.Args[:1], api.Value{})
	turns[2].Ask.Arms[0] = api.Arm{}
	if got := showAll(turns[1:2]) + showAll(turns[3:]); got != want || !strings.Contains(got, "spawn 1 9 chan#2") {
		t.Errorf("turns share memory: %s", got)
	}
}
