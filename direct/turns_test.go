package direct

import (
	"reflect"
	"slices"
	"strconv"
	"strings"
	"testing"

	"seedbed/api"
	"seedbed/eval"
	"seedbed/syntax"
)

func parsed(t *testing.T, source string) api.Program {
	t.Helper()
	p, at, err := syntax.Parse(source)
	if err != api.OK {
		t.Fatalf("Parse(%q): %d at %d", source, err, at)
	}
	return p
}

func num(n int) api.Value { return api.Value{Kind: api.KInt, N: n} }

func channel(n int) api.Value { return api.Value{Kind: api.KChan, N: n} }

// words are the names of asks by their kinds.
func words() []string {
	return strings.Fields("- yield sleep emit now spawn await cancel chan send receive close lock hold free select open leave shield unveil acquire release")
}

func showFault(f api.Fault) string {
	switch f.Kind {
	case api.FNone:
		return ""
	case api.FThrow:
		return " !" + f.Text
	}
	return " ~"
}

func showValues(list ...api.Value) string {
	out := ""
	for _, v := range list {
		text, err := eval.Show(v)
		if err != api.OK {
			text = "?"
		}
		out += " " + text
	}
	return out
}

func numbers(list ...int) string {
	out := ""
	for _, n := range list {
		out += " " + strconv.Itoa(n)
	}
	return out
}

// show writes a turn: the name of the ask and its fields, or done, and a value or a fault. A ! stands before the text of a throw, a ~ for a cancellation.
func show(turn api.Turn) string {
	if turn.Done {
		if turn.V == (api.Value{}) {
			return "done" + showFault(turn.Fault)
		}
		return "done" + showValues(turn.V) + showFault(turn.Fault)
	}
	a := turn.Ask
	out := words()[a.Kind]
	switch a.Kind {
	case api.ASleep, api.ALock, api.AAcquire, api.ARelease:
		out += numbers(a.N)
		a.N = 0
	case api.AChan, api.AOpen:
		out += numbers(a.N, a.M)
		a.N, a.M = 0, 0
	case api.ASpawn:
		out += numbers(a.Fn) + showValues(a.Args...)
		a.Fn, a.Args = 0, nil
	case api.AEmit, api.AAwait, api.ACancel, api.AReceive, api.AClose, api.AHold, api.AFree:
		out += showValues(a.V)
		a.V = api.Value{}
	case api.ASend:
		out += showValues(a.V, a.W)
		a.V, a.W = api.Value{}, api.Value{}
	case api.ALeave:
		out += showFault(a.Fault)
		a.Fault = api.Fault{}
	case api.ASelect:
		for _, arm := range a.Arms {
			out += " (" + strconv.Itoa(arm.Op) + showValues(arm.V, arm.W) + numbers(arm.N) + ")"
		}
		out += numbers(a.N)
		a.N, a.Arms = 0, nil
	}
	// No other field of an ask, and none of the turn, is anything but zero.
	if !reflect.DeepEqual(turn, api.Turn{Ask: turn.Ask}) || !reflect.DeepEqual(a, api.Ask{Kind: a.Kind}) {
		out += " and more"
	}
	return out
}

// replyOf makes a reply to an ask of a word: !text and ~ are faults, a number that of a value, 1:5 an index and a number, - the usual reply.
func replyOf(t *testing.T, ask api.Ask, word string) api.Answer {
	t.Helper()
	switch {
	case strings.HasPrefix(word, "!"):
		return api.Answer{Fault: api.Fault{Kind: api.FThrow, Text: word[1:]}}
	case word == "~":
		return api.Answer{Fault: api.Fault{Kind: api.FCancel}}
	}
	index, digits, found := strings.Cut(word, ":")
	if !found {
		digits = word
	}
	n, _ := strconv.Atoi(digits)
	reply, err := Usual(ask, n)
	if err != api.OK {
		t.Fatalf("Usual(%v, %d): %d", ask, n, err)
	}
	if found {
		reply = api.Answer{}
		reply.Index, _ = strconv.Atoi(index)
		if reply.Index < len(ask.Arms) && ask.Arms[reply.Index].Op == api.CReceive {
			reply.V = num(n)
		}
	}
	return reply
}

// showAll writes turns with ; between.
func showAll(turns []api.Turn) string {
	var list []string
	for _, turn := range turns {
		list = append(list, show(turn))
	}
	return strings.Join(list, "; ")
}

// wantTurns checks all turns of a coroutine after replies, the turn of Next, and the turns after fewer replies.
func wantTurns(t *testing.T, source string, fn int, args []api.Value, replies, want string) {
	t.Helper()
	p := parsed(t, source)
	var answers []api.Answer
	turn, err := Next(p, fn, args, nil)
	turns := []api.Turn{turn}
	for _, word := range strings.Fields(replies) {
		if err != api.OK || turn.Done {
			t.Errorf("%s after %q: %s, %d, and replies are left", source, replies, showAll(turns), err)
			return
		}
		answers = append(answers, replyOf(t, turn.Ask, word))
		turn, err = Next(p, fn, args, answers)
		turns = append(turns, turn)
	}
	got, other := All(p, fn, args, answers)
	if showAll(got) != want || err != api.OK || other != api.OK {
		t.Errorf("%s after %q:\ngot  %s, %d, %d\nwant %s", source, replies, showAll(got), err, other, want)
	}
	if !slices.EqualFunc(got, turns, func(x, y api.Turn) bool { return reflect.DeepEqual(x, y) }) {
		t.Errorf("%s after %q:\nAll  %s\nNext %s", source, replies, showAll(got), showAll(turns))
	}
}

// wantMain checks the turns of the function main with a body; what stands behind a | are other functions.
func wantMain(t *testing.T, body, replies, want string) {
	t.Helper()
	body, others, _ := strings.Cut(body, "|")
	wantTurns(t, "fn main() { "+body+" } "+others, 0, nil, replies, want)
}

// row is a body, replies, and the turns that follow.
type row [3]string

func wantRows(t *testing.T, rows []row) {
	t.Helper()
	for _, r := range rows {
		wantMain(t, r[0], r[1], r[2])
	}
}
