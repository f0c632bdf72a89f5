package machine

import (
	"reflect"
	"strings"
	"testing"

	"seedbed/api"
	"seedbed/code"
)

func num(n int) api.Value { return api.Value{Kind: api.KInt, N: n} }

func str(s string) api.Value { return api.Value{Kind: api.KText, S: s} }

func truth(n int) api.Value { return api.Value{Kind: api.KBool, N: n} }

func throw(text string) api.Fault { return api.Fault{Kind: api.FThrow, Text: text} }

func done(v api.Value) api.Turn { return api.Turn{Done: true, V: v} }

func failed(f api.Fault) api.Turn { return api.Turn{Done: true, Fault: f} }

// codeOf reads a code from functions: each one is its line and its instructions, separated by semicolons, without the zeros and the unit at their ends.
func codeOf(t *testing.T, functions ...string) api.Code {
	t.Helper()
	text := ""
	for _, f := range functions {
		head, body, _ := strings.Cut(f, ";")
		text += "fn " + head + "\n"
		for line := range strings.SplitSeq(body, ";") {
			words := strings.SplitN(strings.TrimSpace(line), " ", 6)
			if words[0] != "guard" {
				whole := []string{"", "0", "0", "0", "-", "unit"}
				copy(whole, words)
				words = whole
			}
			text += "  " + strings.Join(words, " ") + "\n"
		}
	}
	c, line, err := code.Read(text)
	if err != api.OK {
		t.Fatalf("Read(%s): %d in the line %d", text, err, line)
	}
	return c
}

// wantTurns checks all turns of the first function of a code, by All, Next, and Start and Go.
func wantTurns(t *testing.T, c api.Code, args []api.Value, answers []api.Answer, want ...api.Turn) {
	t.Helper()
	got, err := All(c, 0, args, answers)
	if err != api.OK || !reflect.DeepEqual(got, want) {
		text, _ := code.Text(c)
		t.Errorf("%swith %v after %v: %v, %d, want %v", text, args, answers, got, err, want)
		return
	}
	if turn, err := Next(c, 0, args, answers); err != api.OK || !reflect.DeepEqual(turn, want[len(want)-1]) {
		t.Errorf("Next = %v, %d", turn, err)
	}
	frames, turn, err := Start(c, 0, args)
	for i := range want {
		if err != api.OK || !reflect.DeepEqual(turn, want[i]) || (len(frames) == 0) != turn.Done {
			t.Errorf("the turn %d is %v, with %v, %d, want %v", i, turn, frames, err, want[i])
			return
		}
		if i < len(answers) {
			frames, turn, err = Go(c, frames, answers[i])
		}
	}
}

// wantEnd checks the only turn of a function with 4 slots that has two parameters.
func wantEnd(t *testing.T, body string, one, two api.Value, want api.Turn) {
	t.Helper()
	wantTurns(t, codeOf(t, "main 2 4;"+body), []api.Value{one, two}, nil, want)
}

// samples are values of all kinds.
func samples() []api.Value {
	return []api.Value{{}, num(0), num(1), num(2), num(-1), num(api.MaxInt), truth(0), truth(1), str(""), str("a b"), {Kind: api.KChan, N: 1}, {Kind: api.KTask, N: 2}, {Kind: api.KLock, N: 3}}
}
