package cancel

import (
	"math"
	"reflect"
	"strings"
	"testing"

	"seedbed/api"
)

var (
	none      = api.Fault{}
	cancelled = api.Fault{Kind: api.FCancel}
)

func throw(text string) api.Fault { return api.Fault{Kind: api.FThrow, Text: text} }

func taskLink(n int) api.Link { return api.Link{Kind: api.LTask, N: n} }

func scopeLink(n int) api.Link { return api.Link{Kind: api.LScope, N: n} }

// cancels are the effects that tell that tasks are cancelled.
func cancels(tasks ...int) []api.Effect {
	var list []api.Effect
	for _, n := range tasks {
		list = append(list, api.Effect{Kind: api.ECancel, N: n})
	}
	return list
}

func left(owner, scope int, f api.Fault) []api.Effect {
	return []api.Effect{{Kind: api.ELeft, N: owner, M: scope, Fault: f}}
}

func sameList[T any](a, b []T) bool { return len(a) == 0 && len(b) == 0 || reflect.DeepEqual(a, b) }

// builder does with a grove what must succeed, and checks what it returns.
type builder struct {
	*Grove
	t *testing.T
}

func build(t *testing.T, roots int) builder {
	t.Helper()
	g, err := New(roots)
	if err != api.OK {
		t.Fatalf("New(%d): %d", roots, err)
	}
	return builder{g, t}
}

func (b builder) copy() builder { return builder{b.Copy(), b.t} }

func (b builder) wantNumber(what string, n int, err api.Errno, want int) {
	b.t.Helper()
	if n != want || err != api.OK {
		b.t.Errorf("%s = %d, %d, want %d", what, n, err, want)
	}
}

func (b builder) wantEffects(what string, effects []api.Effect, err api.Errno, want []api.Effect) {
	b.t.Helper()
	if !sameList(effects, want) || err != api.OK {
		b.t.Errorf("%s = %+v, %d, want %+v", what, effects, err, want)
	}
}

// open opens a scope without a deadline, until one with a deadline.
func (b builder) open(task, want int) {
	b.t.Helper()
	b.until(task, -1, want)
}

func (b builder) until(task, at, want int) {
	b.t.Helper()
	n, err := b.Open(task, false, at)
	b.wantNumber("Open", n, err, want)
}

func (b builder) supervise(task, at, want int) {
	b.t.Helper()
	n, err := b.Open(task, true, at)
	b.wantNumber("Open", n, err, want)
}

// spawn spawns tasks one after the other.
func (b builder) spawn(task int, wants ...int) {
	b.t.Helper()
	for _, want := range wants {
		n, err := b.Spawn(task)
		b.wantNumber("Spawn", n, err, want)
	}
}

func (b builder) shield(task int) {
	b.t.Helper()
	b.wantNumber("Shield", 0, b.Shield(task), 0)
}

func (b builder) unveil(task int) {
	b.t.Helper()
	b.wantNumber("Unveil", 0, b.Unveil(task), 0)
}

func (b builder) leave(task int, f api.Fault, want ...api.Effect) {
	b.t.Helper()
	effects, err := b.Leave(task, f)
	b.wantEffects("Leave", effects, err, want)
}

func (b builder) end(task int, f api.Fault, want ...api.Effect) {
	b.t.Helper()
	effects, err := b.End(task, f)
	b.wantEffects("End", effects, err, want)
}

func (b builder) fail(scope int, f api.Fault, want ...api.Effect) {
	b.t.Helper()
	effects, err := b.Fail(scope, f)
	b.wantEffects("Fail", effects, err, want)
}

func (b builder) strike(task int, want ...api.Effect) {
	b.t.Helper()
	effects, err := b.Strike(task)
	b.wantEffects("Strike", effects, err, want)
}

func (b builder) expire(now int, want ...api.Effect) {
	b.t.Helper()
	effects, err := b.Expire(now)
	b.wantEffects("Expire", effects, err, want)
}

// wantPending checks which tasks are pending: those, and no others.
func (b builder) wantPending(want ...int) {
	b.t.Helper()
	var list []int
	for n := -1; n <= api.MaxTasks+1; n++ {
		if b.Pending(n) {
			list = append(list, n)
		}
	}
	if !sameList(list, want) {
		b.t.Errorf("%v are pending, want %v", list, want)
	}
}

// wantNext checks the least deadline; -1: there is none.
func (b builder) wantNext(want int) {
	b.t.Helper()
	if at, ok := b.Next(); at != max(want, 0) || ok != (want >= 0) {
		b.t.Errorf("Next = %d, %t, want %d", at, ok, want)
	}
}

func (b builder) wantDeadline(task, want int) {
	b.t.Helper()
	if at, ok := b.Deadline(task); at != max(want, 0) || ok != (want >= 0) {
		b.t.Errorf("Deadline(%d) = %d, %t, want %d", task, at, ok, want)
	}
}

func (b builder) wantFault(scope int, want api.Fault) {
	b.t.Helper()
	if s, err := b.Scope(scope); s.Fault != want || err != api.OK {
		b.t.Errorf("Scope(%d) = %+v, %d, want the fault %v", scope, s, err, want)
	}
}

// state is all that a grove tells of itself.
type state struct {
	tasks     []api.TaskState
	scopes    []api.ScopeState
	chains    [][]api.Link
	below     [][]int
	pending   []bool
	deadlines []int
	next      int
}

// timeOf makes one number of a time that there may be.
func timeOf(at int, ok bool) int {
	if !ok {
		return -1 - at
	}
	return at
}

func (b builder) all() state {
	s := state{next: timeOf(b.Next())}
	for n := 1; ; n++ {
		x, err := b.Task(n)
		if err != api.OK {
			break
		}
		chain, _ := b.Chain(n)
		s.tasks, s.chains = append(s.tasks, x), append(s.chains, chain)
		s.pending, s.deadlines = append(s.pending, b.Pending(n)), append(s.deadlines, timeOf(b.Deadline(n)))
	}
	for n := 1; ; n++ {
		x, err := b.Scope(n)
		if err != api.OK {
			return s
		}
		below, _ := b.Below(n)
		s.scopes, s.below = append(s.scopes, x), append(s.below, below)
	}
}

// refusal is a call that must return an error, and what it returns.
type refusal struct {
	what string
	call func() (any, api.Errno)
}

func two[T any](x T, err api.Errno) (any, api.Errno) { return x, err }

// calls are those of all methods that return an error, for a task or a scope.
func (b builder) calls(n int, f api.Fault) []refusal {
	return []refusal{
		{"Open", func() (any, api.Errno) { return two(b.Open(n, false, 0)) }},
		{"Shield", func() (any, api.Errno) { return nil, b.Shield(n) }},
		{"Unveil", func() (any, api.Errno) { return nil, b.Unveil(n) }},
		{"Spawn", func() (any, api.Errno) { return two(b.Spawn(n)) }},
		{"Strike", func() (any, api.Errno) { return two(b.Strike(n)) }},
		{"Chain", func() (any, api.Errno) { return two(b.Chain(n)) }},
		{"Leave", func() (any, api.Errno) { return two(b.Leave(n, f)) }},
		{"End", func() (any, api.Errno) { return two(b.End(n, f)) }},
		{"Fail", func() (any, api.Errno) { return two(b.Fail(n, f)) }},
		{"Task", func() (any, api.Errno) { return two(b.Task(n)) }},
		{"Scope", func() (any, api.Errno) { return two(b.Scope(n)) }},
		{"Below", func() (any, api.Errno) { return two(b.Below(n)) }},
		{"Root", func() (any, api.Errno) { return two(b.Root()) }},
		{"Expire", func() (any, api.Errno) { return two(b.Expire(n)) }},
	}
}

// wantRefusals checks that calls return an error and nothing else, and have no effect.
func (b builder) wantRefusals(want api.Errno, list []refusal) {
	b.t.Helper()
	before := b.all()
	for _, r := range list {
		got, err := r.call()
		if v := reflect.ValueOf(got); err != want || got != nil && !v.IsZero() && !(v.Kind() == reflect.Slice && v.Len() == 0) {
			b.t.Errorf("%s = %v, %d, want %d", r.what, got, err, want)
		}
		if after := b.all(); !reflect.DeepEqual(after, before) {
			b.t.Fatalf("%s changes %+v to %+v", r.what, before, after)
		}
	}
}

// TestP201Examples checks the chapter's examples.
func TestP201Examples(t *testing.T) {
	b := build(t, 1)
	b.open(1, 1)
	b.spawn(1, 2, 3)
	b.end(2, throw("x"), cancels(1, 3)...)
	b = build(t, 1)
	b.until(1, 5, 1)
	b.expire(4)
	b.expire(5, cancels(1)...)
	b.leave(1, cancelled, left(1, 1, throw("late"))...)
	b = build(t, 1)
	b.open(1, 1)
	b.spawn(1, 2)
	b.shield(2)
	b.strike(1, cancels(1)...)
	b.wantPending(1)
	b.unveil(2)
	b.wantPending(1, 2)
}

// TestP201New checks how many roots a grove can begin with, and how many tasks, scopes and shields it can have.
func TestP201New(t *testing.T) {
	for _, n := range []int{0, -1, api.MaxTasks + 1, math.MaxInt, math.MinInt} {
		if g, err := New(n); g != nil || err != api.ErrArg {
			t.Errorf("New(%d) = %v, %d", n, g, err)
		}
	}
	b := build(t, api.MaxTasks)
	for n := range api.MaxScopes {
		b.until(1, 300-n, n+1)
	}
	for range api.MaxShields {
		b.shield(1)
	}
	calls := b.calls(1, none)
	b.wantRefusals(api.ErrFull, []refusal{calls[0], calls[1], calls[3], calls[12]})
	b.wantPending()
	b.wantNext(300 - api.MaxScopes + 1)
}

// TestP201Errors checks that errors are those of the tree, and have no effect.
func TestP201Errors(t *testing.T) {
	b := build(t, 2)
	b.until(1, 5, 1)
	b.leave(1, none, left(1, 1, none)...)
	b.end(1, none)
	for _, n := range []int{1, 0, -1, 3, math.MaxInt, math.MinInt} {
		for _, f := range []api.Fault{none, cancelled, throw("x"), {Kind: 9}} {
			b.wantRefusals(api.ErrNone, b.calls(n, f)[:9])
		}
		if n != 1 {
			b.wantRefusals(api.ErrNone, b.calls(n, none)[9:12])
		}
	}
	b = build(t, 1)
	b.open(1, 1)
	b.spawn(1, 2)
	for _, f := range []api.Fault{{Kind: -1}, {Kind: 3}, {Text: "x"}, {Kind: api.FCancel, Text: "x"}, throw("\n"), throw(strings.Repeat("x", api.MaxText+1))} {
		b.wantRefusals(api.ErrArg, b.calls(1, f)[6:9])
	}
	b.wantRefusals(api.ErrArg, b.calls(1, cancelled)[8:9])
	b.shield(1)
	b.wantRefusals(api.ErrPlace, b.calls(1, cancelled)[6:8])
	b.unveil(1)
	b.leave(1, none)
	b.wantRefusals(api.ErrPlace, append(b.calls(1, cancelled)[:4], b.calls(1, cancelled)[6:8]...))
	b.strike(1, cancels(1, 2)...)
}

// TestP201Nil checks the results of no grove, and of one that has no tree.
func TestP201Nil(t *testing.T) {
	for _, b := range []builder{{nil, t}, {&Grove{}, t}} {
		for _, n := range []int{0, 1, -1, math.MaxInt} {
			for _, f := range []api.Fault{none, throw("x"), {Kind: 9}} {
				b.wantRefusals(api.ErrArg, b.calls(n, f))
			}
			b.wantDeadline(n, -1)
			for kind := range api.LShield + 1 {
				if l := (api.Link{Kind: kind, N: n}); b.Struck(l) {
					t.Errorf("Struck(%v) of no grove", l)
				}
			}
		}
		b.wantPending()
		b.wantNext(-1)
		if b.Grove == nil && b.Copy() != nil {
			t.Error("a copy of no grove")
		}
	}
}

// family is a grove of some floors: the task 1 has the scopes 1 and 3, the task 2 of the scope 1 has the scope 2, behind a shield, in which are 4 and 5; the task 6 of the scope 3 has a shield.
func family(t *testing.T) builder {
	b := build(t, 1)
	b.open(1, 1)
	b.spawn(1, 2, 3)
	b.shield(2)
	b.open(2, 2)
	b.spawn(2, 4, 5)
	b.open(1, 3)
	b.spawn(1, 6, 7)
	b.shield(6)
	return b
}

// TestP201Strike checks whom it reaches if a task is struck, and in which order.
func TestP201Strike(t *testing.T) {
	for _, x := range []struct {
		task          int
		want, pending []int
	}{
		{1, []int{1, 3, 7}, []int{1, 3, 7}},
		{2, nil, nil},
		{3, []int{3}, []int{3}},
		{4, []int{4}, []int{4}},
		{6, nil, nil},
		{7, []int{7}, []int{7}},
	} {
		b := family(t)
		b.strike(x.task, cancels(x.want...)...)
		b.wantPending(x.pending...)
		b.strike(x.task)
		b.wantPending(x.pending...)
	}
	b := family(t)
	b.strike(3, cancels(3)...)
	b.strike(4, cancels(4)...)
	b.strike(1, cancels(1, 7)...)
	b.unveil(6)
	b.wantPending(1, 3, 4, 6, 7)
	b.strike(6)
	b.leave(2, none)
	b.end(4, none)
	b.end(5, none, left(2, 2, none)...)
	b.wantPending(1, 3, 6, 7)
	b.unveil(2)
	b.wantPending(1, 2, 3, 6, 7)
}

// TestP201Deep checks the order in which many floors are reached.
func TestP201Deep(t *testing.T) {
	b := build(t, 2)
	b.open(1, 1)
	b.spawn(1, 3, 4)
	b.open(1, 2)
	b.spawn(1, 5)
	b.open(3, 3)
	b.spawn(3, 6)
	b.open(6, 4)
	b.spawn(6, 7)
	b.spawn(3, 8)
	b.spawn(1, 9)
	c := b.copy()
	b.strike(1, cancels(1, 3, 6, 7, 8, 4, 5, 9)...)
	c.strike(8, cancels(8)...)
	c.fail(2, throw("x"), cancels(1, 5, 9)...)
	c.fail(2, throw("y"))
	c.fail(1, throw("z"), cancels(3, 6, 7, 4)...)
	c.wantPending(1, 3, 4, 5, 6, 7, 8, 9)
	c.strike(2, cancels(2)...)
}

// TestP201Scope checks whom it reaches if a scope is struck: those in it, and its owner, but for shields further in.
func TestP201Scope(t *testing.T) {
	b := family(t)
	b.end(4, throw("x"), cancels(2, 5)...)
	b.wantFault(2, throw("x"))
	b.end(7, throw("y"), cancels(1)...)
	b.wantPending(1, 2, 5)
	b.end(3, cancelled)
	b.wantPending(1, 2, 5)
	b.fail(1, throw("z"))
	b.wantPending(1, 2, 5)
	b = family(t)
	b.shield(1)
	b.fail(1, throw("z"), cancels(3, 7)...)
	b.wantPending(3, 7)
	b.spawn(1, 8)
	b.wantPending(3, 7, 8)
	b.unveil(1)
	b.wantPending(1, 3, 7, 8)
}

// TestP201Supervised checks that a supervised scope is not struck if one of its tasks fails.
func TestP201Supervised(t *testing.T) {
	b := build(t, 1)
	b.supervise(1, 9, 1)
	b.spawn(1, 2, 3)
	b.end(2, throw("x"))
	b.wantPending()
	b.fail(1, throw("y"), cancels(1, 3)...)
	b.end(3, throw("z"))
	b.leave(1, throw("w"), left(1, 1, throw("y"))...)
	b.wantPending()
}

// TestP201Leave checks that a scope is struck if its block ends with a fault while a task runs, and that its owner is reached while it is leaving.
func TestP201Leave(t *testing.T) {
	for _, f := range []api.Fault{cancelled, throw("x")} {
		b := build(t, 1)
		b.open(1, 1)
		b.spawn(1, 2)
		b.leave(1, f, cancels(1, 2)...)
		b.wantPending(1, 2)
		b.end(2, cancelled, left(1, 1, f)...)
		b.wantPending()
	}
	b := build(t, 1)
	b.open(1, 1)
	b.spawn(1, 2)
	b.leave(1, none)
	b.wantPending()
	b.fail(1, throw("x"), cancels(1, 2)...)
	b.end(2, cancelled, left(1, 1, throw("x"))...)
	b.open(1, 2)
	b.spawn(1, 3)
	b.end(3, none)
	b.leave(1, cancelled, left(1, 2, cancelled)...)
	b.wantPending()
}

// TestP201After checks that it is judged by the tree behind the call whom it reaches: nobody, if the scope is over.
func TestP201After(t *testing.T) {
	b := build(t, 1)
	b.open(1, 1)
	b.spawn(1, 2)
	b.leave(1, none)
	b.end(2, throw("x"), left(1, 1, throw("x"))...)
	b.wantPending()
	b.open(1, 2)
	b.spawn(1, 3)
	b.wantPending()
}

// TestP201Again checks that tasks below what is struck are pending from their beginnings, but for those behind a shield.
func TestP201Again(t *testing.T) {
	b := build(t, 1)
	b.open(1, 1)
	b.strike(1, cancels(1)...)
	b.spawn(1, 2)
	b.wantPending(1, 2)
	b.shield(1)
	b.wantPending(2)
	b.spawn(1, 3)
	b.wantPending(2, 3)
	b.open(1, 2)
	b.spawn(1, 4)
	b.wantPending(2, 3)
	b.fail(1, throw("x"))
	b.fail(2, throw("y"), cancels(1, 4)...)
	b.end(4, none)
	b.leave(1, none, left(1, 2, throw("y"))...)
	b.wantPending(2, 3)
	b.unveil(1)
	b.wantPending(1, 2, 3)
	b.end(2, none)
	b.end(3, none)
	b.leave(1, none, left(1, 1, throw("x"))...)
	b.wantPending(1)
}

// TestP201Own checks that a task that is struck itself stays pending behind its scopes, but not within its shields.
func TestP201Own(t *testing.T) {
	b := build(t, 1)
	b.shield(1)
	b.strike(1)
	b.wantPending()
	b.open(1, 1)
	b.spawn(1, 2)
	b.wantPending()
	b.end(2, none)
	b.leave(1, none, left(1, 1, none)...)
	b.unveil(1)
	b.wantPending(1)
	b.open(1, 2)
	b.spawn(1, 3)
	b.wantPending(1, 3)
	b.end(3, cancelled)
	b.leave(1, cancelled, left(1, 2, cancelled)...)
	b.wantPending(1)
	b.end(1, cancelled)
	b.wantPending()
}

// TestP201Times checks which times are deadlines.
func TestP201Times(t *testing.T) {
	for _, at := range []int{-1, math.MinInt, api.MaxTime + 1, math.MaxInt} {
		b := build(t, 1)
		b.until(1, at, 1)
		b.wantNext(-1)
		b.wantDeadline(1, -1)
		b.expire(math.MaxInt)
		b.wantFault(1, none)
	}
	for _, at := range []int{0, 1, api.MaxTime} {
		b := build(t, 1)
		b.until(1, at, 1)
		b.wantNext(at)
		b.wantDeadline(1, at)
		b.expire(math.MinInt)
		b.expire(at - 1)
		b.wantNext(at)
		b.expire(at, cancels(1)...)
		b.wantNext(-1)
		b.wantDeadline(1, -1)
		b.wantFault(1, throw("late"))
		b.expire(math.MaxInt)
	}
}

// TestP201Expire checks the order in which deadlines come: by time, then by number.
func TestP201Expire(t *testing.T) {
	b := build(t, 4)
	for i, at := range []int{7, 5, 5, 6} {
		b.until(i+1, at, i+1)
		b.spawn(i+1, i+5)
	}
	b.wantNext(5)
	c, d := b.copy(), b.copy()
	b.expire(7, cancels(2, 6, 3, 7, 4, 8, 1, 5)...)
	b.wantNext(-1)
	c.expire(5, cancels(2, 6, 3, 7)...)
	c.wantNext(6)
	c.expire(5)
	c.expire(6, cancels(4, 8)...)
	c.wantNext(7)
	d.leave(2, none)
	d.wantNext(5)
	d.end(6, none, left(2, 2, none)...)
	d.wantNext(5)
	d.end(7, none)
	d.leave(3, none, left(3, 3, none)...)
	d.wantNext(6)
	d.wantDeadline(2, -1)
	d.expire(api.MaxTime, cancels(4, 8, 1, 5)...)
	d.wantFault(2, none)
}

// TestP201Nested checks deadlines of scopes within each other: what is reached once is not reached again.
func TestP201Nested(t *testing.T) {
	b := build(t, 1)
	b.until(1, 9, 1)
	b.spawn(1, 2)
	b.until(1, 4, 2)
	b.spawn(1, 3)
	b.until(2, 9, 3)
	b.spawn(2, 4)
	for n, want := range []int{-1, 4, 9, 4, 9} {
		b.wantDeadline(n, want)
	}
	c := b.copy()
	b.expire(4, cancels(1, 3)...)
	for n, want := range []int{-1, 9, 9, 9, 9} {
		b.wantDeadline(n, want)
	}
	b.expire(9, cancels(2, 4)...)
	for n := range 3 {
		b.wantFault(n+1, throw("late"))
	}
	c.shield(1)
	c.wantDeadline(1, -1)
	c.wantDeadline(3, 4)
	c.shield(2)
	c.wantDeadline(2, -1)
	c.wantDeadline(4, 9)
	c.expire(4, cancels(3)...)
	c.wantPending(3)
	c.expire(9, cancels(4)...)
	c.wantPending(3, 4)
}

// TestP201Late checks which scopes get the fault of their deadlines: those that have none.
func TestP201Late(t *testing.T) {
	b := build(t, 2)
	b.until(1, 3, 1)
	b.spawn(1, 3)
	b.end(3, throw("x"), cancels(1)...)
	b.wantNext(3)
	b.expire(3)
	b.wantFault(1, throw("x"))
	b.leave(1, cancelled, left(1, 1, throw("x"))...)
	b.supervise(2, 4, 2)
	b.spawn(2, 4)
	b.leave(2, cancelled, cancels(2, 4)...)
	b.wantFault(2, none)
	b.expire(4)
	b.end(4, throw("y"), left(2, 2, throw("late"))...)
}

// TestP201Memory checks that results are new memory.
func TestP201Memory(t *testing.T) {
	b := family(t)
	b.strike(3, cancels(3)...)
	before := b.all()
	s := b.all()
	for i := range s.tasks {
		clear(s.tasks[i].Open)
		clear(s.chains[i])
	}
	for i := range s.scopes {
		clear(s.scopes[i].Tasks)
		clear(s.below[i])
	}
	if after := b.all(); !reflect.DeepEqual(after, before) {
		t.Errorf("%+v has become %+v", before, after)
	}
}

// TestP201Copies checks that what is done with a copy does not change the grove, nor the other way round.
func TestP201Copies(t *testing.T) {
	b := build(t, 1)
	b.until(1, 5, 1)
	b.spawn(1, 2, 3)
	b.until(2, 6, 2)
	b.strike(3, cancels(3)...)
	before := b.all()
	c := b.copy()
	if s := c.all(); !reflect.DeepEqual(s, before) {
		t.Fatalf("a copy of %+v is %+v", before, s)
	}
	c.until(1, 2, 3)
	c.wantNext(2)
	c.strike(2, cancels(2)...)
	c.leave(2, none, left(2, 2, none)...)
	c.expire(5, cancels(1)...)
	c.end(3, none)
	if s := b.all(); !reflect.DeepEqual(s, before) {
		t.Errorf("%+v has become %+v", before, s)
	}
	after := c.all()
	b.expire(9, cancels(1, 2)...)
	b.spawn(1, 4)
	b.shield(2)
	b.end(4, throw("x"))
	if s := c.all(); !reflect.DeepEqual(s, after) {
		t.Errorf("%+v has become %+v", after, s)
	}
}
