package machine

import (
	"strconv"
	"strings"
	"testing"

	"seedbed/api"
	"seedbed/eval"
)

// TestP142Values checks the instructions that set slots.
func TestP142Values(t *testing.T) {
	for _, v := range samples() {
		text, _ := eval.Show(v)
		wantEnd(t, "const 3 0 0 - "+text+"; return 3", v, v, done(v))
		wantEnd(t, "move 2 1; move 3 2; return 3", num(5), v, done(v))
		wantEnd(t, "return 3", v, v, done(api.Value{}))
		wantEnd(t, "return -1", v, v, done(api.Value{}))
		wantEnd(t, "return 0", v, num(1), done(v))
		for op := api.ENot; op <= api.ENeg; op++ {
			want, fault, _ := eval.Unary(op, v)
			wantEnd(t, "unary 3 "+strconv.Itoa(op)+" 1; return 3", num(7), v, api.Turn{Done: true, V: want, Fault: fault})
		}
		for op := api.EEq; op <= api.ERem; op++ {
			for _, w := range samples() {
				want, fault, _ := eval.Binary(op, v, w)
				wantEnd(t, "binary 3 "+strconv.Itoa(op)+" 0 1; return 3", v, w, api.Turn{Done: true, V: want, Fault: fault})
			}
		}
	}
	wantEnd(t, "binary 0 18 0 1; return 0", num(7), num(0), failed(throw("zero")))
	wantEnd(t, "binary 0 15 0 1; return 0", num(api.MaxInt), num(1), failed(throw("big")))
	wantEnd(t, "binary 0 15 0 1; return 0", str(strings.Repeat("a", api.MaxText)), str("b"), failed(throw("long")))
	wantEnd(t, "binary 1 16 1 0; return 1", num(2), num(7), done(num(5)))
}

// TestP142Ways checks where instructions lead.
func TestP142Ways(t *testing.T) {
	const ways = "; return 1; const 1 0 0 - \"led\"; return 1"
	for _, v := range samples() {
		plain, led := done(num(5)), done(str("led"))
		wantEnd(t, "jump 2"+ways, v, num(5), led)
		want := failed(throw("kind"))
		if v.Kind == api.KBool {
			want = []api.Turn{led, plain}[v.N]
		}
		wantEnd(t, "false 0 2"+ways, v, num(5), want)
		want = led
		if v == num(api.FThrow) {
			want = plain
		}
		wantEnd(t, "fault 0 2"+ways, v, num(5), want)
		want = failed(throw("kind"))
		if v.Kind == api.KInt && v.N >= 0 && v.N < 2 {
			want = []api.Turn{led, plain}[v.N]
		}
		wantEnd(t, "switch 0 0 0 2,1"+ways, v, num(5), want)
		want = failed(throw("kind"))
		if v.Kind == api.KText {
			want = failed(throw(v.S))
		}
		wantEnd(t, "throw 0", v, num(5), want)
	}
	wantEnd(t, "arm 1 0 0 0; arm 2 0 0 0,1; arm 3 0 0 3; return 0", num(1), num(2), done(num(1)))
}

// TestP142Raises checks which faults an IRaise has.
func TestP142Raises(t *testing.T) {
	for _, kind := range samples() {
		for _, text := range samples() {
			want := throw("kind")
			switch {
			case kind == num(api.FThrow) && text.Kind == api.KText:
				want = throw(text.S)
			case kind == num(api.FCancel) && text == str(""):
				want = api.Fault{Kind: api.FCancel}
			}
			wantEnd(t, "raise 0", kind, text, failed(want))
		}
	}
}

// TestP142Guards checks to which guard a raise leads, and what is in its slots then.
func TestP142Guards(t *testing.T) {
	const body = "throw 0; throw 1; return 2; return 3; move 0 2; move 1 3; jump 1"
	one, two := str("one"), str("two")
	for guards, want := range map[string]api.Turn{
		"":                                failed(throw("one")),
		"; guard 0 1 2 2":                 done(num(api.FThrow)),
		"; guard 0 1 3 2":                 done(one),
		"; guard 1 7 3 2":                 failed(throw("one")),
		"; guard 1 7 2 2; guard 0 7 3 2":  done(one),
		"; guard 0 7 3 2; guard 0 1 2 2":  done(one),
		"; guard 0 1 2 2; guard 0 7 3 2":  done(num(api.FThrow)),
		"; guard 0 1 1 2":                 failed(throw("two")),
		"; guard 0 1 1 2; guard 1 2 3 2":  done(two),
		"; guard 0 1 4 2":                 failed(throw("one")),
		"; guard 0 1 1 1; guard 1 2 3 2":  done(str("kind")), // the slot 1 has a number then
		"; guard 0 1 1 0; guard 1 2 2 2":  done(num(api.FThrow)),
		"; guard 0 1 1 0; guard 1 2 3 2":  done(one), // the slot 1 has the text then
		"; guard 1 2 2 2; guard 0 1 3 2 ": done(one),
	} {
		wantEnd(t, body+strings.TrimSuffix(guards, " "), one, two, want)
	}
	for _, line := range []string{"unary 3 6 0", "binary 3 18 0 1", "false 0 1", "switch 0 0 0 1", "throw 0", "raise 0", "ask -1 2 0 0", "call -1 1 0 0,0"} {
		c := codeOf(t, "main 2 4;"+line+"; return 0; return 3; guard 0 1 2 2", "f 2 2; throw 0")
		wantTurns(t, c, []api.Value{str("kind"), num(0)}, nil, done(str("kind")))
	}
}

// TestP142Calls checks calls, their arguments and results, and raises that leave them.
func TestP142Calls(t *testing.T) {
	const twice = "twice 1 2; binary 1 15 0 0; return 1"
	c := codeOf(t, "main 1 3; call 2 1 0 0; call 2 1 0 2; return 2", twice)
	wantTurns(t, c, []api.Value{num(3)}, nil, done(num(12)))
	wantTurns(t, c, []api.Value{truth(1)}, nil, failed(throw("kind")))
	wantTurns(t, codeOf(t, "main 1 1; call -1 1 0 0; return 0", twice), []api.Value{num(3)}, nil, done(num(3)))
	wantTurns(t, codeOf(t, "main 1 1; call 0 1; return 0", "f 0 3; return -1"), []api.Value{num(3)}, nil, done(api.Value{}))
	// The other slots of a call have no value, and its slots are its own ones.
	wantTurns(t, codeOf(t, "main 1 3; const 2 0 0 - 9; call 1 1 0 0; return 1", "f 1 3; const 0 0 0 - 1; return 2"), []api.Value{num(3)}, nil, done(api.Value{}))
	wantTurns(t, codeOf(t, "main 1 3; call 1 1 0 0; return 0", "f 1 3; const 0 0 0 - 1; return 2"), []api.Value{num(3)}, nil, done(num(3)))
	wantTurns(t, codeOf(t, "main 2 3; call 2 1 0 1,0; return 2", "f 2 2; binary 0 16 0 1; return 0"), []api.Value{num(3), num(5)}, nil, done(num(2)))
	// A raise leads to the guard around the call; without one it goes on to the caller of that.
	for guards, want := range map[string]api.Turn{
		"":                 failed(throw("a")),
		"; guard 1 2 3 1":  done(str("a")),
		"; guard 0 1 3 1":  failed(throw("a")),
		"; guard 2 4 3 1":  failed(throw("a")),
		"; guard 0 4 3 1 ": done(str("a")),
	} {
		c := codeOf(t, "main 1 3; const 2 0 0 - 5; call 2 1; return 2; return 2"+strings.TrimSuffix(guards, " "), "f 0 1; call 0 2; return 0", "g 0 2; const 0 0 0 - \"a\"; throw 0")
		wantTurns(t, c, []api.Value{num(3)}, nil, want)
	}
	// What a call sets if it has a raise is what it was.
	wantTurns(t, codeOf(t, "main 1 3; call 0 1; return 2; return 0; guard 0 1 2 1", "f 0 2; const 0 0 0 - \"a\"; throw 0"), []api.Value{num(3)}, nil, done(num(3)))
}

// TestP142Deep checks how many calls there can be.
func TestP142Deep(t *testing.T) {
	const c1, c2 = "const 1 0 0 - 1; binary 2 9 0 1; false 2 4; return 0; binary 0 16 0 1; ", "; return 0"
	c := codeOf(t, "main 1 4;"+c1+"call 0 0 0 0"+c2)
	wantTurns(t, c, []api.Value{num(api.MaxFrames)}, nil, done(num(1)))
	wantTurns(t, c, []api.Value{num(api.MaxFrames + 1)}, nil, failed(throw("deep")))
	// The last one that is there gets the raise, and catches it.
	c = codeOf(t, "main 1 3; const 2 0 0 - 1; binary 0 15 0 2; call 0 0 0 0; return 0; return 0; guard 2 3 4 1")
	wantTurns(t, c, []api.Value{num(0)}, nil, done(num(api.MaxFrames)))
	c = codeOf(t, "main 1 3; const 2 0 0 - 1; binary 0 15 0 2; call 0 0 0 0; return 0; return 2; guard 2 3 4 1")
	wantTurns(t, c, []api.Value{num(0)}, nil, done(str("deep")))
	// A call that has ended is none any more.
	c = codeOf(t, "main 0 4; const 0 0 0 - 100; const 1 0 0 - 1; const 2 0 0 - 0; call -1 1; binary 0 16 0 1; binary 3 9 0 2; false 3 3; return 0", "f 0 0; return -1")
	wantTurns(t, c, nil, nil, done(num(0)))
}
