package machine

import (
	"math"
	"reflect"
	"slices"
	"testing"

	"seedbed/api"
)

// calling is a code of three functions that call each other, the last one of which sleeps.
func calling(t *testing.T) api.Code {
	t.Helper()
	return codeOf(t, "main 1 2; move 1 0; call 1 1 0 0; ask -1 9 0 0,1; return 1", "f 1 2; call -1 2 0 0,0; return 0", "g 2 3; const 2 0 0 - \"a b\"; ask 2 2 0 1; throw 0")
}

// begun returns the frames of calling.
func begun(t *testing.T) []api.Frame {
	t.Helper()
	frames, turn, err := Start(calling(t), 0, []api.Value{num(4)})
	want := []api.Frame{{Fn: 0, Pc: 1, To: -1, Slots: []api.Value{num(4), num(4)}}, {Fn: 1, Pc: 0, To: 1, Slots: []api.Value{num(4), {}}}, {Fn: 2, Pc: 1, To: -1, Slots: []api.Value{num(4), num(4), str("a b")}}}
	if !reflect.DeepEqual(frames, want) || !reflect.DeepEqual(turn, api.Turn{Ask: api.Ask{Kind: api.ASleep, N: 4}}) || err != api.OK {
		t.Fatalf("Start = %v, %v, %d", frames, turn, err)
	}
	return frames
}

// wantGood checks whether frames are good.
func wantGood(t *testing.T, what string, c api.Code, frames []api.Frame, want api.Errno) {
	t.Helper()
	if Good(c, frames) != (want == api.OK) {
		t.Errorf("%s: Good is not %t", what, want == api.OK)
	}
	ask, err := Waits(c, frames)
	if err != want || err != api.OK && !reflect.DeepEqual(ask, api.Ask{}) {
		t.Errorf("%s: Waits = %v, %d, want %d", what, ask, err, want)
	}
	if want == api.OK {
		return
	}
	// A reply that fits nothing is looked at later.
	if after, turn, err := Go(c, frames, api.Answer{Index: -1}); after != nil || !reflect.DeepEqual(turn, api.Turn{}) || err != want {
		t.Errorf("%s: Go = %v, %v, %d, want %d", what, after, turn, err, want)
	}
}

// TestP141Good checks what makes frames bad.
func TestP141Good(t *testing.T) {
	wantGood(t, "good ones", calling(t), begun(t), api.OK)
	for what, change := range map[string]func(f []api.Frame){
		"another first To": func(f []api.Frame) { f[0].To = 0 }, "another To": func(f []api.Frame) { f[1].To = 0 }, "another last To": func(f []api.Frame) { f[2].To = 0 }, "no To": func(f []api.Frame) { f[1].To = -1 },
		"another function": func(f []api.Frame) { f[1].Fn = 2 }, "function -1": func(f []api.Frame) { f[0].Fn = -1 }, "function 3": func(f []api.Frame) { f[2].Fn = 3 }, "function far away": func(f []api.Frame) { f[2].Fn = math.MaxInt },
		"a place that is no call": func(f []api.Frame) { f[0].Pc = 0 }, "an ask that is no call": func(f []api.Frame) { f[0].Pc = 2 }, "a place that is no ask": func(f []api.Frame) { f[2].Pc = 0 }, "place -1": func(f []api.Frame) { f[2].Pc = -1 }, "place 3": func(f []api.Frame) { f[2].Pc = 3 }, "place 2 of two": func(f []api.Frame) { f[1].Pc = 2 }, "place far away": func(f []api.Frame) { f[1].Pc = math.MinInt },
		"a slot less": func(f []api.Frame) { f[2].Slots = f[2].Slots[:2] }, "a slot more": func(f []api.Frame) { f[0].Slots = append(f[0].Slots, num(1)) }, "no slots": func(f []api.Frame) { f[1].Slots = nil },
		"a value that is not valid": func(f []api.Frame) { f[1].Slots[1].N = 1 }, "a number that is too great": func(f []api.Frame) { f[2].Slots[0].N = api.MaxInt + 1 }, "an ask that would be a raise": func(f []api.Frame) { f[2].Slots[1] = truth(1) },
	} {
		frames := begun(t)
		change(frames)
		wantGood(t, what, calling(t), frames, api.ErrArg)
	}
	frames := begun(t)
	for what, list := range map[string][]api.Frame{"none": nil, "no frames": {}, "two": frames[:2], "one": frames[:1], "the last two": frames[1:], "all twice": slices.Concat(frames, frames), "another order": {frames[1], frames[0], frames[2]}} {
		wantGood(t, what, calling(t), list, api.ErrArg)
	}
	wantGood(t, "no code", api.Code{}, frames, api.ErrCode)
	wantGood(t, "no code and no frames", api.Code{}, nil, api.ErrCode)
	// The values may be others, and the last frame can be alone, if no call is before it.
	frames[2].Slots[1], frames[1].Slots[0] = num(-3), str("x")
	wantGood(t, "others", calling(t), frames, api.OK)
	frames[2].To = -1
	wantGood(t, "the last one", calling(t), frames[2:], api.OK)
	if ask, err := Waits(calling(t), frames[2:]); !reflect.DeepEqual(ask, api.Ask{Kind: api.ASleep, N: -3}) || err != api.OK {
		t.Errorf("Waits = %v, %d", ask, err)
	}
}

// TestP141Linked checks frames at instructions that are nearly the right ones.
func TestP141Linked(t *testing.T) {
	c := codeOf(t, "main 0 2; call 1 1; move 1 1; ask 1 1; return 1", "f 0 2; ask 1 1; return 0", "g 0 2; ask 1 1; return 0")
	for pc, want := range []api.Errno{api.OK, api.ErrArg, api.ErrArg, api.ErrArg} {
		wantGood(t, "a call", c, []api.Frame{{Pc: pc, To: -1, Slots: make([]api.Value, 2)}, {Fn: 1, To: 1, Slots: make([]api.Value, 2)}}, want)
	}
	wantGood(t, "another function", c, []api.Frame{{To: -1, Slots: make([]api.Value, 2)}, {Fn: 2, To: 1, Slots: make([]api.Value, 2)}}, api.ErrArg)
	for fn, want := range []api.Errno{api.ErrArg, api.OK, api.OK, api.ErrArg, api.ErrArg} {
		wantGood(t, "one frame", c, []api.Frame{{Fn: fn, To: -1, Slots: make([]api.Value, 2)}}, want)
	}
	wantGood(t, "a frame without a function", c, []api.Frame{{Fn: -1, To: -1, Slots: make([]api.Value, 2)}}, api.ErrArg)
}

// TestP141Most checks how many good frames there can be.
func TestP141Most(t *testing.T) {
	c := codeOf(t, "main 0 0; call -1 0; ask -1 1; return -1")
	for n, want := range map[int]api.Errno{api.MaxFrames: api.OK, api.MaxFrames + 1: api.ErrArg, 5000: api.ErrArg} {
		frames := slices.Repeat([]api.Frame{{To: -1}}, n)
		frames[n-1].Pc = 1
		wantGood(t, "many", c, frames, want)
	}
	wantGood(t, "a select whose time is none", codeOf(t, "main 1 1; arm 3 0 0 0; ask -1 15 0 0; return -1"), []api.Frame{{Pc: 1, To: -1, Slots: []api.Value{{}}}}, api.ErrArg)
	wantGood(t, "a leave without a fault", codeOf(t, "main 2 2; ask -1 17 0 0; return -1"), []api.Frame{{To: -1, Slots: []api.Value{num(0), str("a")}}}, api.ErrArg)
}

// TestP141Errors checks the errors of Start and of Next and All, and their order.
func TestP141Errors(t *testing.T) {
	c, args := calling(t), []api.Value{num(4)}
	endless := codeOf(t, "main 1 1; jump 0")
	many := make([]api.Answer, api.MaxAsks+1)
	for _, x := range []struct {
		what    string
		c       api.Code
		fn      int
		args    []api.Value
		answers []api.Answer
		want    api.Errno
	}{
		{"no code", api.Code{}, -1, nil, many, api.ErrCode}, {"function -1", c, -1, args, many, api.ErrArg}, {"function 3", c, 3, args, nil, api.ErrArg}, {"function far away", c, math.MinInt, args, nil, api.ErrArg},
		{"too few", c, 0, nil, nil, api.ErrArg}, {"too many", c, 0, []api.Value{num(4), num(5)}, nil, api.ErrArg}, {"those of another function", c, 2, args, nil, api.ErrArg}, {"a wrong value", c, 0, []api.Value{{N: 1}}, many, api.ErrArg}, {"no fuel", endless, 0, args, many, api.ErrFuel},
		{"too many replies", c, 0, args, many, api.ErrFull}, {"a reply that does not fit", c, 0, args, []api.Answer{{V: num(1)}}, api.ErrAnswer}, {"another one", c, 0, args, []api.Answer{{Index: 1}}, api.ErrAnswer}, {"a fault that is not valid", c, 0, args, []api.Answer{{Fault: api.Fault{Kind: 3}}}, api.ErrAnswer},
		{"replies left", c, 0, args, make([]api.Answer, 2), api.ErrAnswer}, {"too many replies left", codeOf(t, "main 0 0; return -1"), 0, nil, many, api.ErrFull}, {"a reply to nothing", codeOf(t, "main 0 0; return -1"), 0, nil, many[:1], api.ErrAnswer},
	} {
		if turns, err := All(x.c, x.fn, x.args, x.answers); turns != nil || err != x.want {
			t.Errorf("%s: All = %v, %d, want %d", x.what, turns, err, x.want)
		}
		if turn, err := Next(x.c, x.fn, x.args, x.answers); !reflect.DeepEqual(turn, api.Turn{}) || err != x.want {
			t.Errorf("%s: Next = %v, %d, want %d", x.what, turn, err, x.want)
		}
		frames, turn, err := Start(x.c, x.fn, x.args)
		switch {
		case x.want == api.ErrFull || x.want == api.ErrAnswer:
			if err != api.OK {
				t.Errorf("%s: Start: %d", x.what, err)
			}
		case frames != nil || !reflect.DeepEqual(turn, api.Turn{}) || err != x.want:
			t.Errorf("%s: Start = %v, %v, %d, want %d", x.what, frames, turn, err, x.want)
		}
	}
	yields := codeOf(t, "main 0 0; ask -1 1; jump 0")
	if turns, err := All(yields, 0, nil, many[:api.MaxAsks]); len(turns) != api.MaxAsks+1 || err != api.OK {
		t.Errorf("All: %d turns, %d", len(turns), err)
	}
	for _, reply := range []api.Answer{{V: num(1)}, {Index: 1}, {V: num(1), Fault: throw("")}, {Fault: throw("\n")}} {
		if frames, turn, err := Go(c, begun(t), reply); frames != nil || !reflect.DeepEqual(turn, api.Turn{}) || err != api.ErrAnswer {
			t.Errorf("Go with %v = %v, %v, %d", reply, frames, turn, err)
		}
	}
	// A select without arms and an else has only replies that are faults.
	nothing := codeOf(t, "main 0 1; ask -1 15 0 0; return -1")
	wantTurns(t, nothing, nil, []api.Answer{{Fault: throw("a")}}, api.Turn{Ask: api.Ask{Kind: api.ASelect}}, failed(throw("a")))
	if _, err := Next(nothing, 0, nil, []api.Answer{{}}); err != api.ErrAnswer {
		t.Errorf("Next: %d", err)
	}
}

// TestP144Effects checks that no frames are changed, and that results share no memory with them.
func TestP144Effects(t *testing.T) {
	c, frames := calling(t), begun(t)
	for _, reply := range []api.Answer{{}, {Fault: throw("a")}, {Fault: api.Fault{Kind: api.FCancel}}, {}} {
		after, turn, err := Go(c, frames, reply)
		if err != api.OK || !turn.Done {
			t.Errorf("Go = %v, %v, %d", after, turn, err)
		}
		if !reflect.DeepEqual(frames, begun(t)) || !reflect.DeepEqual(c, calling(t)) {
			t.Fatalf("Go changes %v", frames)
		}
	}
	c = codeOf(t, "main 1 1; ask -1 5 1 0; ask -1 5 1 0; return 0", "f 1 1; return 0")
	frames, turn, _ := Start(c, 0, []api.Value{num(1)})
	after, next, _ := Go(c, frames, api.Answer{V: api.Value{Kind: api.KTask, N: 1}})
	turn.Ask.Args[0], after[0].Slots[0] = num(8), num(9)
	ask, _ := Waits(c, frames)
	ask.Args[0] = num(7)
	if frames[0].Slots[0] != num(1) || next.Ask.Args[0] != num(1) {
		t.Errorf("memory is shared: %v, %v", frames, next)
	}
	turns, _ := All(c, 0, []api.Value{num(1)}, []api.Answer{{V: api.Value{Kind: api.KTask, N: 1}}})
	turns[0].Ask.Args[0] = num(5)
	if turns[1].Ask.Args[0] != num(1) {
		t.Errorf("memory is shared: %v", turns)
	}
}
