package tidy

import (
	"math"
	"slices"
	"strconv"
	"strings"
	"testing"

	"seedbed/api"
	"seedbed/code"
)

// codeOf reads a code with a function of 4 slots and one parameter from its instructions, separated by semicolons, without the zeros and the unit at their ends; what stands behind a | is the function's head.
func codeOf(t *testing.T, body string) api.Code {
	t.Helper()
	body, head, found := strings.Cut(body, "|")
	if !found {
		head = "f 1 4"
	}
	text := "fn " + strings.TrimSpace(head) + "\n"
	for line := range strings.SplitSeq(body, ";") {
		words := strings.SplitN(strings.TrimSpace(line), " ", 6)
		if words[0] != "guard" {
			words = append(words, []string{"", "0", "0", "0", "-", "unit"}[len(words):]...)
		}
		text += "  " + strings.Join(words, " ") + "\n"
	}
	c, line, err := code.Read(text)
	if err != api.OK {
		t.Fatalf("Read(%s): %d in the line %d", text, err, line)
	}
	return c
}

type change func(api.Code) (api.Code, api.Errno)

// wantPass checks what passes make of codes, that they leave nothing to do then, and that they do not change their argument.
func wantPass(t *testing.T, by change, rows map[string]string) {
	t.Helper()
	for from, want := range rows {
		c := codeOf(t, from)
		if want == "" {
			want = from
		}
		for range 2 {
			got, err := by(c)
			if err != api.OK || !code.Same(got, codeOf(t, want)) {
				text, _ := code.Text(got)
				t.Errorf("%s becomes %s, %d, want %s", from, text, err, want)
			}
			spoil(got)
			if !code.Same(c, codeOf(t, from)) {
				t.Errorf("%s is changed, or shares memory", from)
			}
			c, from = codeOf(t, want), want
		}
	}
}

// spoil changes everything in a code.
func spoil(c api.Code) {
	for _, f := range c.Funcs {
		for i := range f.Code {
			for j := range f.Code[i].L {
				f.Code[i].L[j] = -9
			}
			f.Code[i].Op = -9
		}
		for i := range f.Guards {
			f.Guards[i].Slot = -9
		}
	}
}

// TestP122Prune checks that what can't be reached is removed, and where the rest leads then.
func TestP122Prune(t *testing.T) {
	wantPass(t, Prune, map[string]string{
		"return 0": "", "jump 1; return 0": "", "jump 0": "", "false 0 2; return 0; return 1": "", "move 0 0; arm 3 0 0 0; return 0": "",
		"return 0; return 1": "return 0", "jump 2; move 0 0; return 0": "jump 1; return 0", "return 0; jump 1; jump 0": "return 0", "jump 1; jump 2; jump 1; jump 0": "jump 1; jump 2; jump 1", "call -1 0 0 0; jump 0; const 0 0 0 - \"a\"; jump 2": "call -1 0 0 0; jump 0",
		"jump 3; return 0; return 1; false 0 5; return 2; jump 0; return 3":                          "jump 1; false 0 3; return 2; jump 0",
		"switch 0 0 0 5,2,5; return 0; return 1; return 2; move 0 0; return 3; return 0":             "switch 0 0 0 2,1,2; return 1; return 3",
		"fault 0 3; return 0; return 1; return 2":                                                    "fault 0 2; return 0; return 2",
		"jump 4; arm 1 0 0 0; move 0 0; arm 3 0 0 0; arm 1 0 0 0; ask 0 15 0 1; return 0":            "jump 2; arm 3 0 0 0; arm 1 0 0 0; ask 0 15 0 1; return 0",
		"throw 0; return 0; return 1; guard 0 1 2 1":                                                 "throw 0; return 1; guard 0 1 1 1",
		"throw 0; return 0; return 1; guard 0 3 2 1; guard 0 1 1 1":                                  "throw 0; return 1; guard 0 2 1 1",
		"move 0 0; jump 4; throw 0; throw 1; throw 2; return 0; guard 2 4 5 1; guard 3 5 5 2":        "move 0 0; jump 2; throw 2; return 0; guard 2 3 3 2",
		"jump 3; return 0; throw 0; move 0 0; return 1; guard 0 3 0 1; guard 1 3 3 1; guard 3 5 4 1": "jump 1; move 0 0; return 1; guard 0 1 0 1; guard 1 3 2 1",
		"jump 2; return 0; return 1; return 2; guard 0 3 3 1":                                        "jump 1; return 1",
		"jump 2; return 0; throw 1; return 2; guard 0 2 3 1; guard 0 4 0 1":                          "jump 1; throw 1; guard 0 2 0 1",
		"jump 2; return 0; throw 1; return 2; guard 1 2 3 1; guard 2 3 3 1":                          "jump 1; throw 1; return 2; guard 1 2 2 1",
		"ask -1 1; return 0; return 1; return 2; guard 0 1 3 1":                                      "ask -1 1; return 0; return 2; guard 0 1 2 1",
		"const 1; return 0; return 1; return 2; guard 0 2 3 1":                                       "const 1; return 0",
	})
}

// TestP122Thread checks where all leads that leads to jumps.
func TestP122Thread(t *testing.T) {
	wantPass(t, Thread, map[string]string{
		"return 0": "", "jump 1; return 0": "", "jump 0": "", "jump 1; jump 0": "", "jump 1; jump 2; jump 1": "", "false 0 0; return 0": "", "false 0 2; return 0; return 1": "", "move 0 0; jump 0": "",
		"jump 2; return 0; jump 3; return 1":                       "jump 3; return 0; jump 3; return 1",
		"jump 1; jump 2; jump 3; return 0":                         "jump 3; jump 3; jump 3; return 0",
		"jump 3; return 0; jump 1; jump 2":                         "jump 1; return 0; jump 1; jump 1",
		"false 0 2; return 0; jump 4; return 1; return 2":          "false 0 4; return 0; jump 4; return 1; return 2",
		"fault 0 2; return 0; jump 4; return 1; return 2":          "fault 0 4; return 0; jump 4; return 1; return 2",
		"switch 0 0 0 2,1,2; return 0; jump 4; return 1; return 2": "switch 0 0 0 4,1,4; return 0; jump 4; return 1; return 2",
		"throw 0; jump 2; return 0; guard 0 1 1 1":                 "throw 0; jump 2; return 0; guard 0 1 2 1",
		"jump 3; return 0; return 1; jump 4; jump 5; jump 4":       "jump 4; return 0; return 1; jump 4; jump 5; jump 4",
		"false 0 2; return 0; jump 3; jump 3":                      "false 0 3; return 0; jump 3; jump 3",
		"switch 0 0 0 1,2,3; jump 2; jump 3; jump 2; jump 1":       "switch 0 0 0 2,2,3; jump 2; jump 3; jump 2; jump 2",
	})
}

// TestP122Fold checks which operators are computed.
func TestP122Fold(t *testing.T) {
	const five, minus = "const 1 0 0 - 5; ", "unary 2 6 1; return 2"
	const folded = five + "const 2 0 0 - -5; return 2"
	wantPass(t, Fold, map[string]string{
		"const 0 0 0 - 1; const 1 0 0 - 2; binary 2 15 0 1; return 2":          "const 0 0 0 - 1; const 1 0 0 - 2; const 2 0 0 - 3; return 2",
		"const 0 0 0 - true; unary 0 5 0; unary 0 5 0; return 0":               "const 0 0 0 - true; const 0 0 0 - false; const 0 0 0 - true; return 0",
		five + "unary 1 6 1; unary 2 6 1; binary 3 17 1 2; return 3":           five + "const 1 0 0 - -5; const 2 0 0 - 5; const 3 0 0 - -25; return 3",
		five + "binary 1 15 1 1; binary 1 15 1 1; return 1":                    five + "const 1 0 0 - 10; const 1 0 0 - 20; return 1",
		"const 0 0 0 - \"a b\"; binary 0 15 0 0; return 0":                     "const 0 0 0 - \"a b\"; const 0 0 0 - \"a ba b\"; return 0",
		"const 0; const 1; binary 2 9 0 1; return 2":                           "const 0; const 1; const 2 0 0 - true; return 2",
		"const 0 0 0 - task#1; const 1 0 0 - task#2; binary 2 9 0 1; return 2": "const 0 0 0 - task#1; const 1 0 0 - task#2; const 2 0 0 - false; return 2",
		// No fault is computed.
		five + "const 0 0 0 - 0; binary 2 18 1 0; return 2": "", five + "const 0 0 0 - true; binary 2 15 1 0; return 2": "", "const 0 0 0 - true; unary 0 6 0; return 0": "", "const 0 0 0 - 1000000000000; binary 0 15 0 0; return 0": "",
		// What is set by something else is not constant.
		five + "move 1 0; " + minus: "", five + "ask 1 4; " + minus: "", five + "ask 0 15 1 1; " + minus: "", five + "ask 1 15 1 0; " + minus: "", five + "call 1 0 0 0; " + minus: "", five + "binary 1 15 0 1; " + minus: "", minus: "", five + "binary 2 15 1 0; return 2": "", five + "binary 2 15 0 1; return 2": "", five + "binary 2 15 1 3; return 2": "",
		five + "ask -1 1; " + minus: five + "ask -1 1; const 2 0 0 - -5; return 2", five + "call -1 0 0 1; " + minus: five + "call -1 0 0 1; const 2 0 0 - -5; return 2", five + "arm 3 0 0 1; ask 0 15 0 2; " + minus: five + "arm 3 0 0 1; ask 0 15 0 2; const 2 0 0 - -5; return 2", five + "move 0 1; " + minus: five + "move 0 1; const 2 0 0 - -5; return 2", five + "const 1 0 0 - 6; " + minus: five + "const 1 0 0 - 6; const 2 0 0 - -6; return 2",
		// Nor is what comes from elsewhere.
		five + "unary 2 6 1; jump 1": "", five + "unary 2 6 1; false 0 1; return 2": "", five + "unary 2 6 1; fault 0 1; return 2": "", five + "unary 2 6 1; switch 0 0 0 0,1": "", five + minus + "; guard 0 1 1 2": "", "jump 2; " + five + minus: "", five + "move 0 0; unary 2 6 1; jump 1": "",
		five + "unary 2 6 1; jump 0": five + "const 2 0 0 - -5; jump 0", five + minus + "; jump 2": folded + "; jump 2", five + minus + "; guard 0 2 0 2": folded + "; guard 0 2 0 2",
		five + "jump 3; unary 2 6 1; return 2": five + "jump 3; const 2 0 0 - -5; return 2",
	})
}

// TestP122Spare checks which slots remain, and that pairs remain pairs.
func TestP122Spare(t *testing.T) {
	wantPass(t, Spare, map[string]string{
		"return 0|f 1 1": "", "return -1|f 0 0": "", "return -1|f 5 5": "", "binary 1 15 2 3; return 0": "",
		"return 0": "return 0|f 1 1", "return -1|f 3 200": "return -1|f 3 3", "return 199|f 0 200": "return 0|f 0 1",
		"const 2 0 0 - 1; return 2": "const 1 0 0 - 1; return 1|f 1 2", "move 3 2; return -1": "move 2 1; return -1|f 1 3", "unary 3 5 2; return -1": "unary 2 5 1; return -1|f 1 3", "binary 4 9 2 6; return -1|f 1 9": "binary 2 9 1 3; return -1|f 1 4",
		"false 3 0; return -1": "false 1 0; return -1|f 1 2", "throw 2": "throw 1|f 1 2", "switch 2 0 0 0,0": "switch 1 0 0 0,0|f 1 2", "fault 3 0; return -1": "fault 1 0; return -1|f 1 2", "raise 2": "raise 1|f 1 3",
		"call 3 0 0 2; return -1": "call 2 0 0 1; return -1|f 1 3", "call -1 0 0 2; return -1": "call -1 0 0 1; return -1|f 1 2", "ask 3 9 0 2,5; return -1|f 1 6": "ask 2 9 0 1,3; return -1|f 1 4", "ask -1 17 0 2; return -1": "ask -1 17 0 1; return -1|f 1 3", "arm 2 0 0 3,5; ask -1 15 0 2; return -1|f 1 7": "arm 2 0 0 2,3; ask -1 15 0 1; return -1|f 1 4",
		"ask -1 5 0 3; return -1": "ask -1 5 0 1; return -1|f 1 2", "ask -1 8 2 3; return -1": "ask -1 8 2 1; return -1|f 1 2", "throw 0; return 0; guard 0 1 1 2": "throw 0; return 0; guard 0 1 1 1|f 1 3",
		"throw 7; const 3; return 0; guard 0 1 1 4; guard 1 2 1 9|f 1 20": "throw 4; const 1; return 0; guard 0 1 1 2; guard 1 2 1 5|f 1 7",
	})
}

// TestP121Tidy checks tidied codes.
func TestP121Tidy(t *testing.T) {
	wantPass(t, Tidy, map[string]string{
		"return 0|f 1 1": "", "jump 0|f 0 0": "", "ask -1 1; jump 0|f 0 0": "",
		"jump 1; return -1": "return -1|f 1 1", "move 0 0; return 0": "return 0|f 1 1", "return 0; return 0": "return 0|f 1 1", "jump 1; jump 0": "jump 0|f 1 1", "jump 1; jump 1": "jump 0|f 1 1", "jump 1; jump 2; jump 3; return 0": "return 0|f 1 1", "move 0 0; jump 0": "jump 0|f 1 1",
		"const 0 0 0 - 1; const 1 0 0 - 2; binary 2 15 0 1; return 2": "const 1 0 0 - 3; return 1|f 1 2",
		"false 0 3; return 0; return 0; jump 1":                       "false 0 1; return 0|f 1 1",
		"false 0 2; jump 3; jump 4; return 0; return -1":              "false 0 2; return 0; return -1|f 1 1",
		"false 0 2; jump 3; const 0; return -1|f 1 1":                 "false 0 1; return -1|f 1 1", // the jump leads to what follows once the const is removed
		// What is set and used nowhere, also if it is used for something like that.
		"const 1; return 0": "return 0|f 1 1", "const 1; move 2 1; move 3 2; return 0": "return 0|f 1 1", "const 1; const 1 0 0 - 5; return 1": "const 1 0 0 - 5; return 1|f 1 2", "const 1; ask 1 4; return 1": "ask 1 4; return 1|f 1 2", "move 1 2; move 2 1; jump 0": "jump 0|f 1 1",
		"const 2; throw 0; return 2; guard 1 2 2 2": "throw 0; return 1; guard 0 1 1 1|f 1 3", "const 1 0 0 - 7; throw 0; return 1; guard 1 2 2 2": "", "const 1 0 0 - 7; ask 1 4; return 1; return 1; guard 1 2 3 2": "",
		// What does something remains, though what it sets is used nowhere.
		"unary 1 6 0; return 0": "unary 1 6 0; return 0|f 1 2", "call 1 0 0 0; return 0": "call 1 0 0 0; return 0|f 1 2", "ask 1 4; return 0": "ask 1 4; return 0|f 1 2",
		// An arm without a select does not get one.
		"arm 3 0 0 0; move 0 0; ask 1 15 1 2; return 1": "ask 1 15 1 2; return 1|f 1 3", "arm 1 0 0 0; const 3; arm 3 0 0 0; ask 1 15 0 2; return 1": "arm 3 0 0 0; ask 1 15 0 2; return 1|f 1 3", "arm 3 0 0 0; jump 2; ask 1 15 1 2; return 1": "ask 1 15 1 2; return 1|f 1 3", "arm 3 0 0 0; arm 3 0 0 0; return 0": "return 0|f 1 1", "const 1 0 0 - 5; arm 3 0 0 1; ask 0 15 0 2; return 0": "const 1 0 0 - 5; arm 3 0 0 1; ask 0 15 0 2; return 0|f 1 3",
		// Guards around nothing that can have a raise.
		"throw 0; const 1; return 1; guard 0 1 1 1; guard 1 3 0 1": "throw 0; const 1; return 1; guard 0 1 1 1|f 1 3", "const 1 0 0 - 5; return 1; return 0; guard 0 2 2 2": "const 1 0 0 - 5; return 1|f 1 2", "throw 0; return 0; return 1; guard 0 1 1 2; guard 1 3 2 2": "throw 0; return 0; guard 0 1 1 1|f 1 3", "jump 1; throw 0; return 1; guard 0 1 2 1": "throw 0|f 1 1", "const 1 0 0 - 5; unary 2 6 1; return 2; return 1; guard 0 2 3 2": "const 1 0 0 - -5; return 1|f 1 2",
	})
}

// TestP121IsTidy checks what is not tidy.
func TestP121IsTidy(t *testing.T) {
	for body, want := range map[string]bool{
		"return 0": true, "jump 0": true, "false 0 0; return 0": true, "throw 0; return 0; guard 0 1 1 1": true, "move 0 1; return 0": true, "false 0 2; jump 0; jump 0": true, "const 3; return 0": true, "arm 3 0 0 0; return 0": true, "false 0 3; ask -1 1; jump 0; jump 3": true, "ask -1 1; jump 1; jump 0": false,
		"return 0; return 0": false, "jump 1; return 0": false, "move 1 1; return 0": false, "false 0 2; jump 3; return 0; jump 2": false, "switch 0 0 0 1,2,3; jump 3; jump 3; jump 3": false, "switch 0 0 0 1,2,3; jump 2; jump 3; jump 1": false, "switch 0 0 0 1,2,3; jump 3; jump 1; jump 2": true, "throw 0; return 0; return 1; guard 0 1 1 1; guard 1 2 2 1": false, "throw 0; const 1; return 0; guard 0 1 1 1; guard 1 3 0 1": false, "throw 0; const 1; return 0; guard 0 1 1 1; guard 0 3 0 1": true, "throw 0; const 1; return 0; guard 0 1 1 1; guard 0 1 0 1": true,
	} {
		if got, err := IsTidy(codeOf(t, body)); got != want || err != api.OK {
			t.Errorf("IsTidy of %s = %t, %d", body, got, err)
		}
	}
	two := codeOf(t, "return 0")
	two.Funcs = append(two.Funcs, codeOf(t, "jump 1; return 0|g 1 1").Funcs...)
	if got, err := IsTidy(two); got || err != api.OK {
		t.Errorf("IsTidy of two functions = %t, %d", got, err)
	}
	tidied, err := Tidy(two)
	if want := codeOf(t, "return 0|g 1 1").Funcs[0]; err != api.OK || !code.Same(api.Code{Funcs: tidied.Funcs[1:]}, api.Code{Funcs: []api.FnCode{want}}) {
		t.Errorf("Tidy of two functions = %v, %d", tidied, err)
	}
}

// TestP123Live checks live slots.
func TestP123Live(t *testing.T) {
	for body, want := range map[string][][]int{
		"return -1": {nil}, "return 3": {{3}}, "const 1; return 1": {nil, {1}}, "move 2 1; return 2": {{1}, {2}}, "move 2 2; return 2": {{2}, {2}}, "unary 1 5 2; return 1": {{2}, {1}}, "binary 1 15 1 2; return 1": {{1, 2}, {1}}, "const 3; return 0": {{0}, {0}},
		"jump 0": {nil}, "false 1 2; return 2; return 3": {{1, 2, 3}, {2}, {3}}, "fault 1 2; return 2; return 3": {{1, 2, 3}, {2}, {3}}, "switch 0 0 0 2,3; return 1; return 2; return 3": {{0, 2, 3}, {1}, {2}, {3}}, "throw 2": {{2}}, "raise 1": {{1, 2}}, "return 0; return 1": {{0}, {1}},
		"call 1 0 0 2; return 1": {{2}, {1}}, "call -1 0 0 2; return 1": {{1, 2}, {1}}, "ask 1 9 0 2,3; return 1": {{2, 3}, {1}}, "ask -1 9 0 2,3; return 1": {{1, 2, 3}, {1}}, "ask -1 17 0 1; return -1": {{1, 2}, nil}, "ask -1 17; return -1": {nil, nil}, "ask 1 1; return 1": {nil, {1}}, "ask -1 5 0 3; return -1": {{3}, nil},
		"arm 2 0 0 1,2; arm 3 0 0 3; ask 3 15 0 0; return 0": {{1, 2, 3}, {1, 2, 3}, {1, 2, 3}, {0}}, "ask 1 15 1 2; ask -1 9 0 1,2; return -1": {nil, {1, 2}, nil}, "jump 2; arm 3 0 0 1; ask 1 15 0 2; return 1": {{1}, {1}, {1}, {1}},
		// An instruction that has a raise sets nothing, but its guard sets its slots.
		"ask 1 4; return 1; return 1; guard 0 1 2 2": {{1}, {1}, {1}}, "ask 1 4; return 1; return 2; guard 0 1 2 2": {nil, {1}, {2}}, "ask 1 4; return 1; return 3; guard 0 1 2 2": {nil, {1}, {3}}, "const 1; return 1; return 1; guard 0 1 2 2": {nil, {1}, {1}}, "throw 0; return 3; return 2; guard 0 1 1 1; guard 0 1 2 2": {{0, 3}, {3}, {2}}, "throw 0; return 3; guard 1 2 1 1": {{0}, {3}}, "jump 2; return 3; throw 0; guard 2 3 1 1": {{0, 3}, {3}, {0, 3}}, "ask 0 4; return 0": {nil, {0}}, "ask 1 15 0 0; return 0": {nil, {0}},
		// Ways lead back, too.
		"move 1 2; move 2 3; jump 0": {{2, 3}, {3}, {2, 3}}, "binary 1 15 1 0; false 2 0; return 1": {{0, 1, 2}, {0, 1, 2}, {1}}, "jump 3; return 1; jump 1; jump 2": {{1}, {1}, {1}, {1}},
	} {
		got, err := Live(codeOf(t, body), 0)
		if err != api.OK || !slices.EqualFunc(got, want, func(x, y []int) bool { return slices.Equal(x, y) }) {
			t.Errorf("Live of %s = %v, %d, want %v", body, got, err, want)
		}
	}
	many := codeOf(t, "return 199|f 0 200")
	if got, err := Live(many, 0); err != api.OK || len(got) != 1 || !slices.Equal(got[0], []int{199}) {
		t.Errorf("Live = %v, %d", got, err)
	}
}

// TestP123Errors checks the errors of all functions.
func TestP123Errors(t *testing.T) {
	c := codeOf(t, "return 0")
	for _, fn := range []int{-1, 1, math.MinInt, math.MaxInt} {
		if got, err := Live(c, fn); got != nil || err != api.ErrArg {
			t.Errorf("Live(%d) = %v, %d", fn, got, err)
		}
	}
	wrong := codeOf(t, "return 0; return 0")
	wrong.Funcs[0].Code[1].Op = api.IMove
	for _, c := range []api.Code{{}, wrong, {Funcs: make([]api.FnCode, 1<<20)}} {
		for _, by := range []change{Tidy, Prune, Thread, Fold, Spare} {
			if got, err := by(c); !code.Same(got, api.Code{}) || err != api.ErrCode {
				t.Errorf("a pass returns %v, %d", got, err)
			}
		}
		if is, err := IsTidy(c); is || err != api.ErrCode {
			t.Errorf("IsTidy = %t, %d", is, err)
		}
		if got, err := Live(c, -1); got != nil || err != api.ErrCode {
			t.Errorf("Live = %v, %d", got, err)
		}
	}
}

// TestP121Large checks functions that are as long as they can be, with rows that take many passes.
func TestP121Large(t *testing.T) {
	row := func(line func(at int) string) string {
		var lines []string
		for at := range api.MaxCode - 1 {
			lines = append(lines, line(at))
		}
		return strings.Join(lines, "; ") + "; return 0"
	}
	for what, line := range map[string]func(at int) string{
		"moves":      func(at int) string { return []string{"move 1 2", "move 2 1"}[at%2] },
		"jumps":      func(at int) string { return "jump " + strconv.Itoa(at+1) },
		"jumps back": func(at int) string { return "jump " + strconv.Itoa(max(at-1, 0)) },
		"constants":  func(at int) string { return "const 1 0 0 - " + strconv.Itoa(at) },
		"operators":  func(at int) string { return []string{"const 1 0 0 - 1", "unary 1 6 1"}[min(at, 1)] },
	} {
		want := codeOf(t, "return 0|f 1 1")
		if what == "jumps back" {
			want = codeOf(t, "jump 0|f 1 1")
		}
		got, err := Tidy(codeOf(t, row(line)))
		if err != api.OK || !code.Same(got, want) {
			n, _ := code.Size(got)
			t.Errorf("Tidy of %s: %d instructions, %d", what, n, err)
		}
	}
}
