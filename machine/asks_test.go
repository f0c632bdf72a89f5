package machine

import (
	"reflect"
	"strconv"
	"strings"
	"testing"

	"seedbed/api"
)

// askLines are all asks but a select and a leave, with the slots 0 and 1, and what they ask for if these have the values v and w.
func askLines(v, w api.Value) map[string]api.Ask {
	lines := map[string]api.Ask{
		"1": {Kind: api.AYield}, "4": {Kind: api.ANow}, "18": {Kind: api.AShield}, "19": {Kind: api.AUnveil}, "17": {Kind: api.ALeave},
		"2 0 0": {Kind: api.ASleep, N: v.N}, "12 0 0": {Kind: api.ALock, N: v.N}, "20 0 0": {Kind: api.AAcquire, N: v.N}, "21 0 0": {Kind: api.ARelease, N: v.N},
		"3 0 0": {Kind: api.AEmit, V: v}, "6 0 0": {Kind: api.AAwait, V: v}, "7 0 0": {Kind: api.ACancel, V: v}, "10 0 0": {Kind: api.AReceive, V: v}, "11 0 0": {Kind: api.AClose, V: v}, "13 0 0": {Kind: api.AHold, V: v}, "14 0 0": {Kind: api.AFree, V: v},
		"8 0 0": {Kind: api.AChan, N: v.N}, "8 1 0": {Kind: api.AChan, N: v.N, M: 1}, "8 2 0": {Kind: api.AChan, N: v.N, M: 2},
		"9 0 0,1": {Kind: api.ASend, V: v, W: w}, "9 0 1,0": {Kind: api.ASend, V: w, W: v}, "5 1": {Kind: api.ASpawn, Fn: 1}, "5 2 1,0": {Kind: api.ASpawn, Fn: 2, Args: []api.Value{w, v}},
		"16 0": {Kind: api.AOpen, M: -1}, "16 1": {Kind: api.AOpen, N: 1, M: -1}, "16 0 0": {Kind: api.AOpen, M: v.N}, "16 1 0": {Kind: api.AOpen, N: 1, M: v.N},
	}
	return lines
}

// wantsNumber reports whether an ask with a line wants a KInt in the slot 0.
func wantsNumber(line string) bool {
	kind, rest, _ := strings.Cut(line, " ")
	switch kind {
	case "2", "8", "12", "20", "21":
		return true
	case "16":
		return strings.HasSuffix(rest, " 0")
	}
	return false
}

// TestP142Asks checks what is asked for, or what is raised instead.
func TestP142Asks(t *testing.T) {
	for _, v := range samples() {
		for _, w := range samples() {
			for line, ask := range askLines(v, w) {
				c := codeOf(t, "main 2 2; ask -1 "+line+"; return -1", "f 0 0; return -1", "g 2 2; return -1")
				want := api.Turn{Ask: ask}
				if wantsNumber(line) && v.Kind != api.KInt {
					want = failed(throw("kind"))
				}
				wantTurns(t, c, []api.Value{v, w}, nil, want)
			}
		}
	}
}

// TestP142Leave checks which faults a scope can be left with.
func TestP142Leave(t *testing.T) {
	c := codeOf(t, "main 3 3; ask -1 17 0 1; return -1")
	for _, kind := range samples() {
		for _, text := range samples() {
			want := failed(throw("kind"))
			switch fault := (api.Fault{Kind: kind.N, Text: text.S}); {
			case kind.Kind != api.KInt || text.Kind != api.KText:
			case kind.N == api.FThrow, text.S == "" && (kind.N == api.FNone || kind.N == api.FCancel):
				want = api.Turn{Ask: api.Ask{Kind: api.ALeave, Fault: fault}}
			}
			wantTurns(t, c, []api.Value{num(9), kind, text}, nil, want)
		}
	}
}

// TestP142Select checks the arms of a select, and where its reply is put.
func TestP142Select(t *testing.T) {
	ch := api.Value{Kind: api.KChan, N: 7}
	arms := []api.Arm{{Op: api.CReceive, V: ch}, {Op: api.CSend, V: ch, W: num(3)}, {Op: api.CAfter, N: 3}}
	const lines = "arm 1 0 0 0; arm 2 0 0 0,1; arm 3 0 0 1; "
	args := []api.Value{ch, num(3)}
	for flag := range 2 {
		ask := api.Ask{Kind: api.ASelect, N: flag, Arms: arms}
		c := codeOf(t, "main 2 4;"+lines+"ask 2 15 "+strconv.Itoa(flag)+" 3; ask -1 9 0 2,3; return -1")
		for index := range 3 + flag {
			reply := api.Answer{Index: index}
			if index == 0 {
				reply.V = num(-8)
			}
			wantTurns(t, c, args, []api.Answer{reply}, api.Turn{Ask: ask}, api.Turn{Ask: api.Ask{Kind: api.ASend, V: reply.V, W: num(index)}})
		}
		if _, err := Next(c, 0, args, []api.Answer{{Index: 3 + flag}}); err != api.ErrAnswer {
			t.Errorf("an index that is too great: %d", err)
		}
		// The index comes after the value.
		c = codeOf(t, "main 2 2;"+lines+"ask 1 15 "+strconv.Itoa(flag)+" 1; return 1")
		wantTurns(t, c, args, []api.Answer{{V: num(5)}}, api.Turn{Ask: ask}, done(num(0)))
		c = codeOf(t, "main 2 2;"+lines+"ask -1 15 "+strconv.Itoa(flag)+" 1; return 1")
		wantTurns(t, c, args, []api.Answer{{Index: 2}}, api.Turn{Ask: ask}, done(num(2)))
		// With a fault nothing is set.
		c = codeOf(t, "main 2 4;"+lines+"ask 0 15 "+strconv.Itoa(flag)+" 1; return -1; ask -1 9 0 0,1; return -1; guard 0 4 5 2")
		wantTurns(t, c, args, []api.Answer{{Fault: throw("x")}}, api.Turn{Ask: ask}, api.Turn{Ask: api.Ask{Kind: api.ASend, V: ch, W: num(3)}})
	}
	// Only the arms directly before it count, whether one comes along them or not.
	last := api.Ask{Kind: api.ASelect, Arms: arms[2:]}
	wantTurns(t, codeOf(t, "main 2 2; arm 1 0 0 0; move 0 0; arm 3 0 0 1; ask -1 15 0 0; return -1"), args, nil, api.Turn{Ask: last})
	wantTurns(t, codeOf(t, "main 2 2; jump 3; arm 1 0 0 0; arm 3 0 0 1; ask -1 15 0 0; return -1"), args, nil, api.Turn{Ask: api.Ask{Kind: api.ASelect, Arms: []api.Arm{arms[0], arms[2]}}})
	wantTurns(t, codeOf(t, "main 2 2; ask -1 15 1 0; return 0"), args, []api.Answer{{}}, api.Turn{Ask: api.Ask{Kind: api.ASelect, N: 1}}, done(num(0)))
	// The values of arms are those that the slots have at the select.
	wantTurns(t, codeOf(t, "main 2 2; const 0 0 0 - chan#2; jump 4; return -1; arm 1 0 0 0; ask -1 15 0 1; return -1"), args, nil, api.Turn{Ask: api.Ask{Kind: api.ASelect, Arms: []api.Arm{{Op: api.CReceive, V: api.Value{Kind: api.KChan, N: 2}}}}})
	for _, v := range samples() {
		want := failed(throw("kind"))
		if v.Kind == api.KInt {
			want = api.Turn{Ask: api.Ask{Kind: api.ASelect, Arms: []api.Arm{arms[0], {Op: api.CAfter, N: v.N}}}}
		}
		wantTurns(t, codeOf(t, "main 2 2; arm 1 0 0 0; arm 3 0 0 1; ask -1 15 0 0; return -1"), []api.Value{ch, v}, nil, want)
	}
}

// TestP142Replies checks where replies lead.
func TestP142Replies(t *testing.T) {
	now := api.Turn{Ask: api.Ask{Kind: api.ANow}}
	wantTurns(t, codeOf(t, "main 0 1; ask 0 4; return 0"), nil, []api.Answer{{V: num(5)}}, now, done(num(5)))
	wantTurns(t, codeOf(t, "main 1 1; ask -1 4; return 0"), []api.Value{num(1)}, []api.Answer{{V: num(5)}}, now, done(num(1)))
	wantTurns(t, codeOf(t, "main 1 1; ask 0 1; return 0"), []api.Value{num(1)}, []api.Answer{{}}, api.Turn{Ask: api.Ask{Kind: api.AYield}}, done(api.Value{}))
	sleep := api.Turn{Ask: api.Ask{Kind: api.ASleep, N: 1}}
	cancel := api.Answer{Fault: api.Fault{Kind: api.FCancel}}
	wantTurns(t, codeOf(t, "main 1 1; ask 0 2 0 0; return 0"), []api.Value{num(1)}, []api.Answer{cancel}, sleep, failed(cancel.Fault))
	caught := codeOf(t, "main 1 3; ask 0 2 0 0; return 0; ask -1 9 0 1,2; return 0; guard 0 1 2 1")
	for _, reply := range []api.Answer{cancel, {Fault: throw("a b")}} {
		pair := api.Turn{Ask: api.Ask{Kind: api.ASend, V: num(reply.Fault.Kind), W: str(reply.Fault.Text)}}
		wantTurns(t, caught, []api.Value{num(1)}, []api.Answer{reply, {}}, sleep, pair, done(num(1)))
	}
	// In a call, a fault goes on to the caller.
	c := codeOf(t, "main 1 3; call 0 1 0 0; return 0; return 2; guard 0 1 2 1", "f 1 1; ask -1 2 0 0; return 0")
	wantTurns(t, c, []api.Value{num(1)}, []api.Answer{{Fault: throw("a")}}, sleep, done(str("a")))
	wantTurns(t, c, []api.Value{num(1)}, []api.Answer{{}}, sleep, done(num(1)))
}

// steps is a code that asks for a yield as its step number n, and again and again as the step number n + 1 after a reply.
func steps(t *testing.T, n int) api.Code {
	t.Helper()
	// Each of the rounds has 4 steps, but for the last one, which has 3; 3 stand before them.
	rounds := (n - 3) / 4
	pad := strings.Repeat("move 0 0; ", n-3-4*rounds)
	const loop = "const 1 0 0 - 1; const 2 0 0 - 0; binary 0 16 0 1; binary 3 13 0 2; false 3 7; jump 3; "
	return codeOf(t, "main 0 4; const 0 0 0 - "+strconv.Itoa(rounds)+"; "+loop+pad+"ask -1 1; jump 0")
}

// TestP141Fuel checks the number of the last step, from the beginning and after a reply.
func TestP141Fuel(t *testing.T) {
	yield := api.Turn{Ask: api.Ask{Kind: api.AYield}}
	wantTurns(t, steps(t, api.MaxFuel), nil, nil, yield)
	c := steps(t, api.MaxFuel+1)
	if frames, turn, err := Start(c, 0, nil); frames != nil || !reflect.DeepEqual(turn, api.Turn{}) || err != api.ErrFuel {
		t.Errorf("Start = %v, %v, %d", frames, turn, err)
	}
	// The jump back is one step more.
	wantTurns(t, steps(t, api.MaxFuel-1), nil, []api.Answer{{}, {}, {}}, yield, yield, yield, yield)
	c = steps(t, api.MaxFuel)
	frames, _, err := Start(c, 0, nil)
	if err != api.OK {
		t.Fatalf("Start: %d", err)
	}
	if after, turn, err := Go(c, frames, api.Answer{}); after != nil || !reflect.DeepEqual(turn, api.Turn{}) || err != api.ErrFuel {
		t.Errorf("Go = %v, %v, %d", after, turn, err)
	}
	moves := func(n int) string { return strings.Repeat("move 0 0; ", n) }
	for text, count := range map[string]int{"": 0, "call -1 1; ": 2, "arm 3 0 0 0; ": 1} {
		// A call of the function with the number 2 has 1000 steps, with that of the call.
		for n, want := range map[int]api.Errno{api.MaxFuel - count - 1: api.OK, api.MaxFuel - count: api.ErrFuel} {
			c := codeOf(t, "main 1 1; "+text+strings.Repeat("call -1 2 0 0; ", n/1000)+moves(n%1000)+"return 0", "f 0 0; return -1", "g 1 1; "+moves(998)+"return 0")
			if turn, err := Next(c, 0, []api.Value{num(1)}, nil); err != want || turn.Done != (want == api.OK) {
				t.Errorf("%d steps and %q: %v, %d", n, text, turn, err)
			}
		}
	}
	// A raise is no step of its own.
	for n, want := range map[int]api.Errno{api.MaxFuel - 2: api.OK, api.MaxFuel - 1: api.ErrFuel} {
		c := codeOf(t, "main 1 3; throw 0; "+strings.Repeat("call -1 1 0 0; ", n/1000)+moves(n%1000)+"return 0; guard 0 1 1 1", "g 1 1; "+moves(998)+"return 0")
		if _, err := Next(c, 0, []api.Value{num(1)}, nil); err != want {
			t.Errorf("%d steps and a raise: %d", n, err)
		}
	}
	for _, body := range []string{"jump 0", "throw 0; guard 0 1 0 1", "jump 1; jump 0", "call 0 0; return 0; jump 2; guard 0 1 2 1"} {
		c := codeOf(t, "main 0 4; "+body)
		if turns, err := All(c, 0, nil, nil); turns != nil || err != api.ErrFuel {
			t.Errorf("%s: %v, %d", body, turns, err)
		}
	}
}
