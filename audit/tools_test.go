package audit

import (
	"fmt"
	"slices"
	"strconv"
	"strings"
	"testing"

	"seedbed/api"
	"seedbed/code"
	"seedbed/compile"
	"seedbed/syntax"
	"seedbed/world"
)

var kindNames = strings.Fields("none start wait go emit open leave shield unveil strike cancel late acquire release leak make close lock free order time end left")

// eventsOf reads events of the time 0, with semicolons between: the task, the kind, and N if it is not 0. A word with an @ sets the time for it and those after it.
func eventsOf(t *testing.T, text string) []api.Event {
	t.Helper()
	var list []api.Event
	at := 0
	for part := range strings.SplitSeq(text, ";") {
		words := strings.Fields(part)
		if len(words) > 0 && words[0][0] == '@' {
			at, _ = strconv.Atoi(words[0][1:])
			words = words[1:]
		}
		if len(words) == 0 {
			continue
		}
		e := api.Event{At: at}
		e.Task, _ = strconv.Atoi(words[0])
		if e.Kind = slices.Index(kindNames, words[1]); e.Kind < 0 {
			e.Kind, _ = strconv.Atoi(words[1])
		}
		if len(words) > 2 {
			e.N, _ = strconv.Atoi(words[2])
		}
		list = append(list, e)
	}
	return list
}

func textOfEvents(l []api.Event) string {
	var list []string
	for _, e := range l {
		name := strconv.Itoa(e.Kind)
		if e.Kind >= 0 && e.Kind < len(kindNames) {
			name = kindNames[e.Kind]
		}
		list = append(list, fmt.Sprintf("@%d %d %s %d", e.At, e.Task, name, e.N))
	}
	return strings.Join(list, "; ")
}

// textOfFindings has the positions and the rules, with a colon between.
func textOfFindings(l []api.Finding) string {
	var list []string
	for _, f := range l {
		list = append(list, fmt.Sprintf("%d:%d", f.At, f.Rule))
	}
	return strings.Join(list, " ")
}

// services is a specification of functions without arguments, which are not started again.
func services(fns ...int) api.Spec {
	s := api.Spec{Rule: api.ROne, Within: 1}
	for _, fn := range fns {
		s.Services = append(s.Services, api.Service{Fn: fn, When: api.WNever})
	}
	return s
}

// engines returns both engines of a source.
func engines(t *testing.T, source string) [2]*world.Engine {
	t.Helper()
	p, at, err := syntax.Parse(source)
	if err != api.OK {
		t.Fatalf("%s: error %d at %d", source, err, at)
	}
	c, err := compile.Compile(p)
	if err != api.OK {
		t.Fatalf("%s: error %d", source, err)
	}
	return [2]*world.Engine{world.Direct(p), world.Compiled(c)}
}

// codeEngine is the engine of a code.
func codeEngine(t *testing.T, text string) *world.Engine {
	t.Helper()
	c, line, err := code.Read(text)
	if err != api.OK {
		t.Fatalf("%s: error %d in line %d", text, err, line)
	}
	return world.Compiled(c)
}

func newWorld(t *testing.T, e *world.Engine, s api.Spec) *world.World {
	t.Helper()
	w, err := world.New(e, s)
	if err != api.OK {
		t.Fatalf("New(%v): %d", s, err)
	}
	return w
}

// plays are sources of main and other functions, with all that there is.
func plays() []string {
	return []string{
		`fn main() { scope { spawn a(1); spawn a(2); } } fn a(x int) { emit x; }`,
		`fn main() { let l = lock 1; let m = lock 1; scope { spawn a(l, m); spawn a(m, l); } } fn a(l lock, m lock) { hold l { yield; hold m { emit 1; } } }`,
		`fn main() { let c = chan 1; let d = chan 0; scope { spawn a(c); let t = spawn b(c, d); let u = spawn b(d, c); select { receive x from c { emit x; } send d, 4 { emit "sent"; } after 2 { let y = now; emit y; } } cancel t; cancel u; } } fn a(c chan) { use r = 3 { send c, 1; send c, 2; } close c; } fn b(c chan, d chan) { let x = receive c; send d, x; }`,
		`fn main() { try { scope within 3 { spawn f(2, "a"); scope supervised { spawn f(1, "b"); shield { sleep 2; } } } } catch e { emit e; throw e; } } fn f(n int, e text) { use r = n { scope { if n > 1 { spawn f(n - 1, e); } use q = 10 + n { try { sleep n; } finally { emit e; yield; } } if n == 2 { throw e; } } } }`,
		`fn main() { each x from g(3) buffer 1 { emit x; if x == 1 { break; } sleep 1; } scope { let t = spawn a(7); let x = await t; emit x; } } fn a(n int) int { yield; return n; } fn g(n int) flow { let i = 0; while i < n { produce i; i = i + 1; } }`,
		`fn main() { sleep 1; throw "m"; } fn a() { shield { sleep 1; } use r = 1 { yield; } emit "a"; }`,
		`fn main() { try { scope within 2 { spawn a(1); spawn a(3); sleep 9; } } catch e { emit e; } } fn a(n int) { use r = n { shield { sleep n; } sleep 4; } }`,
	}
}
