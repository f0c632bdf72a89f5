package world

import (
	"slices"
	"strconv"
	"strings"
	"testing"

	"seedbed/api"
	"seedbed/compile"
	"seedbed/shape"
	"seedbed/syntax"
)

// script is a source whose coroutines make turns one after the other, whatever they are replied to with: those of each function. After these they are done.
type script [][]api.Turn

func (s script) begin(t *task) (api.Turn, api.Errno) { return s.resume(t) }

func (s script) resume(t *task) (api.Turn, api.Errno) {
	if at := len(t.answers); at < len(s[t.fn]) {
		return s[t.fn][at], api.OK
	}
	return api.Turn{Done: true}, api.OK
}

// asks are turns with these asks.
func asks(list ...api.Ask) []api.Turn {
	var turns []api.Turn
	for _, a := range list {
		turns = append(turns, api.Turn{Ask: a})
	}
	return turns
}

func val(n int) api.Value  { return api.Value{Kind: api.KInt, N: n} }
func ch(n int) api.Value   { return api.Value{Kind: api.KChan, N: n} }
func job(n int) api.Value  { return api.Value{Kind: api.KTask, N: n} }
func lo(n int) api.Value   { return api.Value{Kind: api.KLock, N: n} }
func ask(kind int) api.Ask { return api.Ask{Kind: kind} }
func askN(kind, n int) api.Ask {
	return api.Ask{Kind: kind, N: n}
}
func askV(kind int, v api.Value) api.Ask { return api.Ask{Kind: kind, V: v} }
func emits(n int) api.Ask                { return askV(api.AEmit, val(n)) }
func spawns(fn int) api.Ask              { return api.Ask{Kind: api.ASpawn, Fn: fn} }
func opens(supervised, within int) api.Ask {
	return api.Ask{Kind: api.AOpen, N: supervised, M: within}
}
func leaves(f api.Fault) api.Ask { return api.Ask{Kind: api.ALeave, Fault: f} }
func sends(c, n int) api.Ask {
	return api.Ask{Kind: api.ASend, V: ch(c), W: val(n)}
}
func ends(v api.Value, f api.Fault) api.Turn { return api.Turn{Done: true, V: v, Fault: f} }

// plainSpec is a specification of services of the functions, none of which is restarted.
func plainSpec(fns ...int) api.Spec {
	s := api.Spec{Rule: api.ROne, Within: 1}
	for _, fn := range fns {
		s.Services = append(s.Services, api.Service{Fn: fn, When: api.WNever})
	}
	return s
}

func newWorld(t *testing.T, e *Engine, s api.Spec) *World {
	t.Helper()
	w, err := New(e, s)
	if w == nil || err != api.OK {
		t.Fatalf("New(%v) = %v, %d", s, w, err)
	}
	return w
}

// play makes a world of a script.
func play(t *testing.T, s api.Spec, fns ...[]api.Turn) *World {
	t.Helper()
	return newWorld(t, &Engine{script(fns)}, s)
}

// engines returns both engines of a source.
func engines(t *testing.T, source string) (*Engine, *Engine) {
	t.Helper()
	p, at, err := syntax.Parse(source)
	if err != api.OK {
		t.Fatalf("%s: error %d at %d", source, err, at)
	}
	c, err := compile.Compile(p)
	if err != api.OK {
		t.Fatalf("%s: error %d", source, err)
	}
	return Direct(p), Compiled(c)
}

// run runs a source by both engines, and checks that they do the same.
func run(t *testing.T, source string, s api.Spec, picks ...int) *World {
	t.Helper()
	direct, compiled := engines(t, source)
	w, v := newWorld(t, direct, s), newWorld(t, compiled, s)
	if n, m := w.Run(picks, 1000), v.Run(picks, 1000); n != m || !slices.Equal(w.Trace(), v.Trace()) {
		t.Fatalf("%s: %d and %d steps; %s; %s", source, n, m, traceOf(w), traceOf(v))
	}
	return w
}

var kindNames = []string{"", "start", "wait", "go", "emit", "open", "leave", "shield", "unveil", "strike", "cancel", "late", "acquire", "release", "leak", "make", "close", "lock", "free", "order", "time", "end", "left"}

func valueText(v api.Value) string {
	switch v.Kind {
	case api.KUnit:
		return ""
	case api.KChan, api.KTask, api.KLock:
		return " =" + "ctl"[v.Kind-api.KChan:][:1] + strconv.Itoa(v.N)
	}
	return " =" + shape.Show(v)
}

func faultText(f api.Fault) string {
	switch f.Kind {
	case api.FThrow:
		return " !" + f.Text
	case api.FCancel:
		return " !!"
	}
	return ""
}

func answerText(a api.Answer) string {
	text := "ok"
	if a.Index != 0 {
		text = strconv.Itoa(a.Index)
	}
	return text + valueText(a.V) + faultText(a.Fault)
}

func answersOf(w *World, n int) string {
	var list []string
	for _, a := range w.Answers(n) {
		list = append(list, answerText(a))
	}
	return strings.Join(list, "; ")
}

// eventText has At, Task, and the name of the kind; N and M if one of them is not 0; V after =, and the fault after !.
func eventText(e api.Event) string {
	text := strconv.Itoa(e.At) + " " + strconv.Itoa(e.Task) + " " + kindNames[e.Kind]
	if e.N != 0 || e.M != 0 {
		text += " " + strconv.Itoa(e.N) + " " + strconv.Itoa(e.M)
	}
	return text + valueText(e.V) + faultText(e.Fault)
}

func traceOf(w *World) string {
	var list []string
	for _, e := range w.Trace() {
		list = append(list, eventText(e))
	}
	return strings.Join(list, "; ")
}

// wantTrace checks a whole trace; line feeds and tabs are of no account in what is wanted.
func wantTrace(t *testing.T, name string, w *World, want string) {
	t.Helper()
	want = strings.Join(strings.Fields(want), " ")
	if got := traceOf(w); got != want {
		t.Errorf("%s: %s\nwant %s", name, got, want)
	}
}

func wantStatus(t *testing.T, w *World, status int, stuck ...int) {
	t.Helper()
	if s := w.Status(); s != status {
		t.Errorf("Status = %d, want %d", s, status)
	}
	if list := w.Stuck(); !slices.Equal(list, stuck) {
		t.Errorf("Stuck = %v, want %v", list, stuck)
	}
}

func wantStep(t *testing.T, w *World, pick int, want api.Errno) {
	t.Helper()
	if err := w.Step(pick); err != want {
		t.Errorf("Step(%d) = %d, want %d", pick, err, want)
	}
}

func wantReady(t *testing.T, w *World, want ...int) {
	t.Helper()
	if list := w.Ready(); !slices.Equal(list, want) {
		t.Errorf("Ready = %v, want %v", list, want)
	}
}

func wantView(t *testing.T, w *World, n int, want api.View) {
	t.Helper()
	if v, err := w.Task(n); v != want || err != api.OK {
		t.Errorf("Task(%d) = %+v, %d, want %+v", n, v, err, want)
	}
}

func outOf(w *World) string {
	text := ""
	for _, v := range w.Out() {
		text += valueText(v)
	}
	return text
}
