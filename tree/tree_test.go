package tree

import (
	"math"
	"reflect"
	"slices"
	"strings"
	"testing"

	"seedbed/api"
)

var (
	none      = api.Fault{}
	cancelled = api.Fault{Kind: api.FCancel}
)

func throw(text string) api.Fault { return api.Fault{Kind: api.FThrow, Text: text} }

func taskLink(n int) api.Link { return api.Link{Kind: api.LTask, N: n} }

func scopeLink(n int) api.Link { return api.Link{Kind: api.LScope, N: n} }

func shieldLink() api.Link { return api.Link{Kind: api.LShield} }

func struck(scope int) api.Effect { return api.Effect{Kind: api.EScope, N: scope} }

func left(owner, scope int, f api.Fault) api.Effect {
	return api.Effect{Kind: api.ELeft, N: owner, M: scope, Fault: f}
}

func sameList[T any](a, b []T) bool { return len(a) == 0 && len(b) == 0 || reflect.DeepEqual(a, b) }

func sameTask(x, y api.TaskState) bool {
	same := sameList(x.Open, y.Open)
	x.Open, y.Open = nil, nil
	return same && reflect.DeepEqual(x, y)
}

func sameScope(x, y api.ScopeState) bool {
	same := sameList(x.Tasks, y.Tasks)
	x.Tasks, y.Tasks = nil, nil
	return same && reflect.DeepEqual(x, y)
}

// invalid are faults that are not.
func invalid() []api.Fault {
	return []api.Fault{
		{Kind: -1}, {Kind: 3}, {Kind: math.MaxInt}, {Kind: math.MinInt}, {Text: "x"}, {Kind: api.FCancel, Text: "x"},
		throw("\n"), throw("\x7f"), throw("é"), throw(strings.Repeat("x", api.MaxText+1)),
	}
}

// builder does with a tree what must succeed, and checks what it returns.
type builder struct {
	*Tree
	t *testing.T
}

func build(t *testing.T, roots int) builder {
	t.Helper()
	tree, err := New(roots)
	if err != api.OK {
		t.Fatalf("New(%d): %d", roots, err)
	}
	return builder{tree, t}
}

func (b builder) wantNumber(what string, n int, err api.Errno, want int) {
	b.t.Helper()
	if n != want || err != api.OK {
		b.t.Errorf("%s = %d, %d, want %d", what, n, err, want)
	}
}

func (b builder) wantEffects(what string, effects []api.Effect, err api.Errno, want []api.Effect) {
	b.t.Helper()
	if !sameList(effects, want) || err != api.OK {
		b.t.Errorf("%s = %+v, %d, want %+v", what, effects, err, want)
	}
}

func (b builder) open(task, want int) {
	b.t.Helper()
	n, err := b.Open(task, false)
	b.wantNumber("Open", n, err, want)
}

func (b builder) supervise(task, want int) {
	b.t.Helper()
	n, err := b.Open(task, true)
	b.wantNumber("Open", n, err, want)
}

func (b builder) root(want int) {
	b.t.Helper()
	n, err := b.Root()
	b.wantNumber("Root", n, err, want)
}

func (b builder) spawn(task, want int) {
	b.t.Helper()
	n, err := b.Spawn(task)
	b.wantNumber("Spawn", n, err, want)
}

func (b builder) shield(task int) {
	b.t.Helper()
	b.wantNumber("Shield", 0, b.Shield(task), 0)
}

func (b builder) unveil(task int) {
	b.t.Helper()
	b.wantNumber("Unveil", 0, b.Unveil(task), 0)
}

func (b builder) fail(scope int, f api.Fault, want ...api.Effect) {
	b.t.Helper()
	effects, err := b.Fail(scope, f)
	b.wantEffects("Fail", effects, err, want)
}

func (b builder) leave(task int, f api.Fault, want ...api.Effect) {
	b.t.Helper()
	effects, err := b.Leave(task, f)
	b.wantEffects("Leave", effects, err, want)
}

func (b builder) end(task int, f api.Fault, want ...api.Effect) {
	b.t.Helper()
	effects, err := b.End(task, f)
	b.wantEffects("End", effects, err, want)
}

func (b builder) wantTask(n int, want api.TaskState) {
	b.t.Helper()
	if got, err := b.Task(n); !sameTask(got, want) || err != api.OK {
		b.t.Errorf("Task(%d) = %+v, %d, want %+v", n, got, err, want)
	}
}

func (b builder) wantScope(n int, want api.ScopeState) {
	b.t.Helper()
	if got, err := b.Scope(n); !sameScope(got, want) || err != api.OK {
		b.t.Errorf("Scope(%d) = %+v, %d, want %+v", n, got, err, want)
	}
}

func (b builder) wantChain(n int, want ...api.Link) {
	b.t.Helper()
	if got, err := b.Chain(n); !sameList(got, want) || err != api.OK {
		b.t.Errorf("Chain(%d) = %v, %d, want %v", n, got, err, want)
	}
}

func (b builder) wantBelow(n int, want ...int) {
	b.t.Helper()
	if got, err := b.Below(n); !sameList(got, want) || err != api.OK {
		b.t.Errorf("Below(%d) = %v, %d, want %v", n, got, err, want)
	}
}

// refusal is a call that must return an error, and what it returns.
type refusal struct {
	what string
	call func() (any, api.Errno)
	want api.Errno
}

// wantRefusals checks calls that return errors: that they return nothing else, and have no effect.
func (b builder) wantRefusals(list []refusal) {
	b.t.Helper()
	before := b.all()
	for _, r := range list {
		got, err := r.call()
		if v := reflect.ValueOf(got); err != r.want || got != nil && !v.IsZero() && !(v.Kind() == reflect.Slice && v.Len() == 0) {
			b.t.Errorf("%s = %v, %d, want %d", r.what, got, err, r.want)
		}
		if after := b.all(); !reflect.DeepEqual(after, before) {
			b.t.Fatalf("%s changes %+v to %+v", r.what, before, after)
		}
	}
}

// state is all that a tree tells of itself.
type state struct {
	tasks  []api.TaskState
	scopes []api.ScopeState
	chains [][]api.Link
	below  [][]int
}

func (b builder) all() state {
	var s state
	for n := 1; ; n++ {
		x, err := b.Task(n)
		if err != api.OK {
			break
		}
		chain, _ := b.Chain(n)
		s.tasks, s.chains = append(s.tasks, x), append(s.chains, chain)
	}
	for n := 1; ; n++ {
		x, err := b.Scope(n)
		if err != api.OK {
			return s
		}
		below, _ := b.Below(n)
		s.scopes, s.below = append(s.scopes, x), append(s.below, below)
	}
}

// calls are those of all methods that take a task, and return an error for it.
func (b builder) calls(task int, f api.Fault, want api.Errno) []refusal {
	return []refusal{
		{"Open", func() (any, api.Errno) { return two(b.Open(task, false)) }, want},
		{"Shield", func() (any, api.Errno) { return nil, b.Shield(task) }, want},
		{"Unveil", func() (any, api.Errno) { return nil, b.Unveil(task) }, want},
		{"Spawn", func() (any, api.Errno) { return two(b.Spawn(task)) }, want},
		{"Leave", func() (any, api.Errno) { return two(b.Leave(task, f)) }, want},
		{"End", func() (any, api.Errno) { return two(b.End(task, f)) }, want},
		{"Chain", func() (any, api.Errno) { return two(b.Chain(task)) }, want},
	}
}

func two[T any](x T, err api.Errno) (any, api.Errno) { return x, err }

// TestP191Examples checks the chapter's examples.
func TestP191Examples(t *testing.T) {
	b := build(t, 1)
	b.open(1, 1)
	b.spawn(1, 2)
	b.spawn(1, 3)
	b.end(2, throw("x"), struck(1))
	b.leave(1, cancelled, struck(1))
	b.wantTask(1, api.TaskState{Leaving: true, Open: []api.Link{scopeLink(1)}})
	b.end(3, cancelled, left(1, 1, throw("x")))
	b = build(t, 1)
	b.supervise(1, 1)
	b.spawn(1, 2)
	b.end(2, throw("x"))
	b.leave(1, none, left(1, 1, none))
	b = build(t, 1)
	b.open(1, 1)
	b.leave(1, none, left(1, 1, none))
}

// TestP191New checks how many roots a tree can begin with.
func TestP191New(t *testing.T) {
	for _, n := range []int{0, -1, api.MaxTasks + 1, math.MaxInt, math.MinInt} {
		if tree, err := New(n); tree != nil || err != api.ErrArg {
			t.Errorf("New(%d) = %v, %d", n, tree, err)
		}
	}
	for _, n := range []int{1, 2, api.MaxTasks} {
		b := build(t, n)
		for x := range n {
			b.wantTask(x+1, api.TaskState{})
			b.wantChain(x+1, taskLink(x+1))
		}
		b.wantRefusals([]refusal{
			{"Task", func() (any, api.Errno) { return two(b.Task(n + 1)) }, api.ErrNone},
			{"Task", func() (any, api.Errno) { return two(b.Task(0)) }, api.ErrNone},
			{"Scope", func() (any, api.Errno) { return two(b.Scope(1)) }, api.ErrNone},
		})
	}
}

// TestP191Limits checks how many tasks, scopes and shields there can be, and that those that have ended count.
func TestP191Limits(t *testing.T) {
	b := build(t, 1)
	for n := range api.MaxScopes - 1 {
		b.open(1, n+1)
		b.leave(1, none, left(1, n+1, none))
	}
	b.open(1, api.MaxScopes)
	for n := 2; n < api.MaxTasks; n++ {
		b.spawn(1, n)
		b.end(n, none)
	}
	b.root(api.MaxTasks)
	for range api.MaxShields {
		b.shield(1)
	}
	b.shield(api.MaxTasks)
	b.wantRefusals([]refusal{
		{"Open", func() (any, api.Errno) { return two(b.Open(1, true)) }, api.ErrFull},
		{"Spawn", func() (any, api.Errno) { return two(b.Spawn(1)) }, api.ErrFull},
		{"Spawn", func() (any, api.Errno) { return two(b.Spawn(api.MaxTasks)) }, api.ErrPlace},
		{"Root", func() (any, api.Errno) { return two(b.Root()) }, api.ErrFull},
		{"Shield", func() (any, api.Errno) { return nil, b.Shield(1) }, api.ErrFull},
	})
	b.unveil(1)
	b.shield(1)
}

// TestP191Shields checks that shields on both sides of a scope count together.
func TestP191Shields(t *testing.T) {
	b := build(t, 1)
	for range api.MaxShields / 2 {
		b.shield(1)
	}
	b.open(1, 1)
	for range api.MaxShields / 2 {
		b.shield(1)
	}
	b.spawn(1, 2)
	b.wantRefusals([]refusal{{"Shield", func() (any, api.Errno) { return nil, b.Shield(1) }, api.ErrFull}})
	b.wantBelow(1, 2)
}

// TestP191Numbers checks numbers of tasks and scopes that are none.
func TestP191Numbers(t *testing.T) {
	b := build(t, 2)
	b.open(1, 1)
	b.leave(1, none, left(1, 1, none))
	b.end(1, none)
	for _, n := range []int{0, -1, 3, 1, math.MaxInt, math.MinInt} {
		for _, f := range []api.Fault{none, cancelled, throw("x"), {Kind: 9}} {
			b.wantRefusals(b.calls(n, f, api.ErrNone))
			b.wantRefusals([]refusal{{"Fail", func() (any, api.Errno) { return two(b.Fail(n, f)) }, api.ErrNone}})
		}
		if n == 1 {
			continue
		}
		b.wantRefusals([]refusal{
			{"Task", func() (any, api.Errno) { return two(b.Task(n)) }, api.ErrNone},
			{"Scope", func() (any, api.Errno) { return two(b.Scope(n)) }, api.ErrNone},
			{"Below", func() (any, api.Errno) { return two(b.Below(n)) }, api.ErrNone},
		})
	}
	b.wantTask(1, api.TaskState{Ended: true})
	b.wantScope(1, api.ScopeState{Owner: 1, Over: true})
	b.wantBelow(1)
}

// TestP191Faults checks that faults that are not valid are found before the place is.
func TestP191Faults(t *testing.T) {
	b := build(t, 1)
	b.open(1, 1)
	b.spawn(1, 2)
	b.open(2, 2)
	b.spawn(2, 3)
	b.leave(2, none)
	b.shield(1)
	for _, f := range invalid() {
		for n := range 3 {
			b.wantRefusals([]refusal{
				{"Leave", func() (any, api.Errno) { return two(b.Leave(n+1, f)) }, api.ErrArg},
				{"End", func() (any, api.Errno) { return two(b.End(n+1, f)) }, api.ErrArg},
			})
		}
		b.wantRefusals([]refusal{{"Fail", func() (any, api.Errno) { return two(b.Fail(1, f)) }, api.ErrArg}})
	}
	for _, f := range []api.Fault{none, cancelled} {
		b.wantRefusals([]refusal{{"Fail", func() (any, api.Errno) { return two(b.Fail(1, f)) }, api.ErrArg}})
	}
	for _, text := range []string{"", " ~", strings.Repeat("x", api.MaxText)} {
		other := builder{b.Copy(), t}
		other.fail(1, throw(text), struck(1))
		other.wantScope(1, api.ScopeState{Owner: 1, Tasks: []int{2}, Fault: throw(text)})
		other.fail(1, throw("y"))
		other.end(3, throw(text), struck(2), left(2, 2, throw(text)))
	}
}

// TestP191Places checks what is not allowed where.
func TestP191Places(t *testing.T) {
	b := build(t, 3)
	b.open(1, 1)
	b.shield(1)
	b.shield(2)
	for _, x := range []struct {
		task                      int
		unveil, spawn, leave, end api.Errno
	}{
		{1, api.OK, api.OK, api.ErrPlace, api.ErrPlace},
		{2, api.OK, api.ErrPlace, api.ErrPlace, api.ErrPlace},
		{3, api.ErrPlace, api.ErrPlace, api.ErrPlace, api.OK},
	} {
		wants := []api.Errno{api.OK, api.OK, x.unveil, x.spawn, x.leave, x.end, api.OK}
		for i, r := range b.calls(x.task, throw("x"), api.ErrPlace) {
			if wants[i] == api.ErrPlace {
				b.wantRefusals([]refusal{r})
				continue
			}
			other := builder{b.Copy(), t}
			if _, err := other.calls(x.task, throw("x"), api.OK)[i].call(); err != api.OK {
				t.Errorf("%s(%d): %d", r.what, x.task, err)
			}
		}
	}
	b.unveil(1)
	b.wantRefusals([]refusal{
		{"Unveil", func() (any, api.Errno) { return nil, b.Unveil(1) }, api.ErrPlace},
		{"End", func() (any, api.Errno) { return two(b.End(1, none)) }, api.ErrPlace},
	})
}

// TestP191Leaving checks what a task that is leaving can't do, also at the limits, and that its scope still runs.
func TestP191Leaving(t *testing.T) {
	b := build(t, 1)
	b.open(1, 1)
	for n := 2; n <= api.MaxTasks; n++ {
		b.spawn(1, n)
	}
	for range api.MaxShields {
		b.shield(2)
	}
	for n := 2; n <= api.MaxScopes; n++ {
		b.open(3, n)
	}
	b.leave(1, none)
	for _, r := range b.calls(1, none, api.ErrPlace)[:6] {
		b.wantRefusals([]refusal{r})
	}
	b.wantTask(1, api.TaskState{Leaving: true, Open: []api.Link{scopeLink(1)}})
	b.wantChain(1, scopeLink(1), taskLink(1))
	b.fail(1, throw("y"), struck(1))
	for n := api.MaxScopes; n >= 2; n-- {
		b.leave(3, none, left(3, n, none))
	}
	for range api.MaxShields {
		b.unveil(2)
	}
	for n := 2; n < api.MaxTasks; n++ {
		b.end(n, none)
	}
	b.end(api.MaxTasks, none, left(1, 1, throw("y")))
	b.wantTask(1, api.TaskState{})
	b.end(1, throw("z"))
	b.wantTask(1, api.TaskState{Ended: true, Fault: throw("z")})
}

// TestP191Leave checks the effects of Leave: with every fault of the block and of the scope, with and without a task that runs.
func TestP191Leave(t *testing.T) {
	for _, had := range []api.Fault{none, throw("x")} {
		for _, f := range []api.Fault{none, cancelled, throw("y")} {
			fault := had
			if had == none && f != cancelled {
				fault = f
			}
			ends := fault
			if fault == none {
				ends = f
			}
			for _, busy := range []bool{false, true} {
				b := build(t, 1)
				b.shield(1)
				b.open(1, 1)
				b.spawn(1, 2)
				if had != none {
					b.fail(1, had, struck(1))
				}
				if !busy {
					b.end(2, cancelled)
					b.leave(1, f, left(1, 1, ends))
					b.wantScope(1, api.ScopeState{Owner: 1, Over: true, Tasks: []int{2}, Fault: fault})
					b.wantTask(1, api.TaskState{Open: []api.Link{shieldLink()}})
					continue
				}
				if f == none {
					b.leave(1, f)
				} else {
					b.leave(1, f, struck(1))
				}
				b.wantScope(1, api.ScopeState{Owner: 1, Tasks: []int{2}, Fault: fault})
				b.wantTask(1, api.TaskState{Leaving: true, Open: []api.Link{shieldLink(), scopeLink(1)}})
				b.end(2, cancelled, left(1, 1, ends))
				b.wantTask(1, api.TaskState{Open: []api.Link{shieldLink()}})
			}
		}
	}
}

// TestP191End checks the effects of End: with every fault of the task and of its scope, if the owner is leaving it and if not.
func TestP191End(t *testing.T) {
	for _, supervised := range []bool{false, true} {
		for _, had := range []api.Fault{none, throw("x")} {
			for _, f := range []api.Fault{none, cancelled, throw("y")} {
				for _, leaving := range []bool{false, true} {
					b := build(t, 1)
					if supervised {
						b.supervise(1, 1)
					} else {
						b.open(1, 1)
					}
					b.spawn(1, 2)
					b.spawn(1, 3)
					if had != none {
						b.fail(1, had, struck(1))
					}
					fault := had
					var want []api.Effect
					if had == none && f == throw("y") && !supervised {
						fault, want = f, []api.Effect{struck(1)}
					}
					if leaving {
						b.leave(1, none)
						b.end(3, none)
						want = append(want, left(1, 1, fault))
					}
					b.end(2, f, want...)
					b.wantScope(1, api.ScopeState{Owner: 1, Supervised: supervised, Over: leaving, Tasks: []int{2, 3}, Fault: fault})
					b.wantTask(2, api.TaskState{Scope: 1, Ended: true, Fault: f})
				}
			}
		}
	}
}

// TestP191Roots checks that roots end without effects.
func TestP191Roots(t *testing.T) {
	b := build(t, 2)
	b.open(1, 1)
	b.root(3)
	b.spawn(1, 4)
	b.leave(1, none)
	b.end(3, throw("x"))
	b.end(2, cancelled)
	b.wantTask(3, api.TaskState{Ended: true, Fault: throw("x")})
	b.wantTask(2, api.TaskState{Ended: true, Fault: cancelled})
	b.wantTask(4, api.TaskState{Scope: 1})
	b.wantScope(1, api.ScopeState{Owner: 1, Tasks: []int{4}})
}

// TestP191Inner checks that only the innermost scope is left: one that has no tasks waits for those further in.
func TestP191Inner(t *testing.T) {
	b := build(t, 1)
	b.open(1, 1)
	b.spawn(1, 2)
	b.open(1, 2)
	b.spawn(1, 3)
	b.leave(1, cancelled, struck(2))
	b.end(2, throw("x"), struck(1))
	b.end(3, none, left(1, 2, cancelled))
	b.wantScope(1, api.ScopeState{Owner: 1, Tasks: []int{2}, Fault: throw("x")})
	b.leave(1, none, left(1, 1, throw("x")))
	b.open(1, 3)
	b.leave(1, none, left(1, 3, none))
}

// family is a tree of three floors: the task 1 has the scopes 1 and 3 with a shield between them, the task 2 of the scope 1 has the scope 2, in which are 4 and 5.
func family(t *testing.T) builder {
	b := build(t, 1)
	b.open(1, 1)
	b.spawn(1, 2)
	b.spawn(1, 3)
	b.shield(2)
	b.open(2, 2)
	b.spawn(2, 4)
	b.spawn(2, 5)
	b.shield(1)
	b.open(1, 3)
	b.spawn(1, 6)
	b.shield(6)
	b.shield(6)
	b.spawn(1, 7)
	b.shield(2)
	b.spawn(2, 8)
	return b
}

// TestP191Chain checks ways up.
func TestP191Chain(t *testing.T) {
	b := family(t)
	up := []api.Link{scopeLink(1), taskLink(1)}
	b.wantChain(1, scopeLink(3), shieldLink(), scopeLink(1), taskLink(1))
	b.wantChain(2, append([]api.Link{shieldLink(), scopeLink(2), shieldLink(), taskLink(2)}, up...)...)
	b.wantChain(3, append([]api.Link{taskLink(3)}, up...)...)
	b.wantChain(4, append([]api.Link{taskLink(4), scopeLink(2), shieldLink(), taskLink(2)}, up...)...)
	b.wantChain(8, append([]api.Link{taskLink(8), scopeLink(2), shieldLink(), taskLink(2)}, up...)...)
	b.wantChain(6, append([]api.Link{shieldLink(), shieldLink(), taskLink(6), scopeLink(3), shieldLink()}, up...)...)
	b.wantChain(7, append([]api.Link{taskLink(7), scopeLink(3), shieldLink()}, up...)...)
}

// TestP191Below checks who is below a scope, and in which order.
func TestP191Below(t *testing.T) {
	b := family(t)
	b.wantBelow(1, 2, 4, 5, 8, 3, 6, 7)
	b.wantBelow(2, 4, 5, 8)
	b.wantBelow(3, 6, 7)
	b.end(4, none)
	b.end(7, none)
	b.wantBelow(1, 2, 5, 8, 3, 6)
	b.end(3, none)
	b.open(8, 4)
	b.spawn(8, 9)
	b.open(8, 5)
	b.shield(8)
	b.spawn(8, 10)
	b.wantBelow(1, 2, 5, 8, 9, 10, 6)
	b.wantBelow(2, 5, 8, 9, 10)
	b.wantBelow(4, 9, 10)
	b.wantBelow(5, 10)
}

// TestP191Nil checks the results of no tree, and that a tree that was not made by New is one without tasks.
func TestP191Nil(t *testing.T) {
	b := builder{nil, t}
	for _, n := range []int{0, 1, math.MinInt} {
		b.wantRefusals(b.calls(n, api.Fault{Kind: 9}, api.ErrArg))
		b.wantRefusals([]refusal{
			{"Root", func() (any, api.Errno) { return two(b.Root()) }, api.ErrArg},
			{"Fail", func() (any, api.Errno) { return two(b.Fail(n, none)) }, api.ErrArg},
			{"Task", func() (any, api.Errno) { return two(b.Task(n)) }, api.ErrArg},
			{"Scope", func() (any, api.Errno) { return two(b.Scope(n)) }, api.ErrArg},
			{"Below", func() (any, api.Errno) { return two(b.Below(n)) }, api.ErrArg},
		})
	}
	if b.Copy() != nil {
		t.Error("a copy of no tree")
	}
	b = builder{&Tree{}, t}
	b.wantRefusals(b.calls(1, none, api.ErrNone))
	b.Tree = b.Copy()
	b.root(1)
	b.open(1, 1)
	b.spawn(1, 2)
}

// TestP191Memory checks that results are new memory.
func TestP191Memory(t *testing.T) {
	b := family(t)
	before := b.all()
	s := b.all()
	for _, x := range s.tasks {
		clear(x.Open)
	}
	for _, x := range s.scopes {
		clear(x.Tasks)
	}
	for _, x := range s.chains {
		clear(x)
	}
	for _, x := range s.below {
		clear(x)
	}
	if after := b.all(); !reflect.DeepEqual(after, before) {
		t.Errorf("%+v has become %+v", before, after)
	}
	s = b.all()
	b.unveil(2)
	b.end(3, throw("x"), struck(1))
	b.spawn(1, 9)
	b.shield(4)
	if !reflect.DeepEqual(s, before) {
		t.Errorf("%+v has become %+v", before, s)
	}
}

// TestP191Copies checks that what is done with a copy does not change the tree, nor the other way round.
func TestP191Copies(t *testing.T) {
	b := family(t)
	b.end(3, cancelled)
	b.unveil(2)
	b.leave(2, cancelled, struck(2))
	before := b.all()
	other := builder{b.Copy(), t}
	if s := other.all(); !reflect.DeepEqual(s, before) {
		t.Fatalf("a copy of %+v is %+v", before, s)
	}
	other.end(4, none)
	other.end(8, none)
	other.end(5, none, left(2, 2, cancelled))
	other.spawn(1, 9)
	other.fail(1, throw("x"), struck(1))
	other.open(7, 4)
	if s := b.all(); !reflect.DeepEqual(s, before) {
		t.Errorf("%+v has become %+v", before, s)
	}
	after := other.all()
	b.open(7, 4)
	b.spawn(7, 9)
	b.shield(7)
	b.end(5, throw("y"), struck(2))
	b.end(4, none)
	b.end(8, none, left(2, 2, throw("y")))
	if s := other.all(); !reflect.DeepEqual(s, after) {
		t.Errorf("%+v has become %+v", after, s)
	}
	if !slices.Equal(b.all().below[3], []int{9}) || len(after.below[3]) > 0 {
		t.Errorf("below the scope 4: %v, %v", b.all().below, after.below)
	}
}
