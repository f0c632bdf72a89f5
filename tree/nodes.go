package tree

import (
	"slices"

	"seedbed/api"
)

// life is what tasks and scopes have in common.
type life struct {
	number int
	done   bool // the task has ended, or the scope is over
	fault  api.Fault
}

// task is a task with its open links. While it is leaving, it leaves its innermost scope with left.
type task struct {
	life
	scope   *scope   // nil of a root
	open    []*scope // from the outermost to the innermost; shields are nil
	leaving bool
	left    api.Fault
}

// scope is a scope with those that were spawned in it. As long as it runs, it is among the open links of its owner.
type scope struct {
	life
	owner      *task
	supervised bool
	tasks      []*task
}

// innermost returns the innermost open link: its scope, or nil of a shield. It is false if there is none.
func (x *task) innermost() (*scope, bool) {
	if len(x.open) == 0 {
		return nil, false
	}
	return x.open[len(x.open)-1], true
}

// unlink removes the innermost open link.
func (x *task) unlink() { x.open = x.open[:len(x.open)-1] }

// shields counts the open links that are shields.
func (x *task) shields() int {
	n := 0
	for _, s := range x.open {
		if s == nil {
			n++
		}
	}
	return n
}

func (x *task) state() api.TaskState {
	state := api.TaskState{Ended: x.done, Leaving: x.leaving, Fault: x.fault, Open: each(x.open, (*scope).link)}
	if x.scope != nil {
		state.Scope = x.scope.number
	}
	return state
}

// take gives a scope a fault, and reports whether it is its first one.
func (s *scope) take(f api.Fault) bool {
	if s.fault.Kind != api.FNone {
		return false
	}
	s.fault = f
	return true
}

// finish lets a scope be over if its owner is leaving it and none of its tasks runs.
func (s *scope) finish() []api.Effect {
	x := s.owner
	if last, _ := x.innermost(); !x.leaving || last != s || s.isBusy() {
		return nil
	}
	f := s.fault
	if f.Kind == api.FNone {
		f = x.left // not an FThrow, as that is the fault of the scope by now
	}
	s.done = true
	x.unlink()
	x.leaving, x.left = false, api.Fault{}
	return []api.Effect{{Kind: api.ELeft, N: x.number, M: s.number, Fault: f}}
}

// running returns the tasks of a scope that run; none of a shield.
func (s *scope) running() []*task {
	var list []*task
	if s != nil {
		for _, x := range s.tasks {
			if !x.done {
				list = append(list, x)
			}
		}
	}
	return list
}

func (s *scope) isBusy() bool { return len(s.running()) > 0 }

// place is the position of a scope that runs among the open links of its owner.
func (s *scope) place() int { return slices.Index(s.owner.open, s) }

func (s *scope) link() api.Link {
	if s == nil {
		return api.Link{Kind: api.LShield}
	}
	return api.Link{Kind: api.LScope, N: s.number}
}

func (s *scope) cancelled() api.Effect { return api.Effect{Kind: api.EScope, N: s.number} }

func (s *scope) state() api.ScopeState {
	return api.ScopeState{
		Owner: s.owner.number, Supervised: s.supervised, Over: s.done, Fault: s.fault,
		Tasks: each(s.tasks, func(x *task) int { return x.number }),
	}
}

// find returns what has a number.
func find[T any](list []*T, n int) (*T, api.Errno) {
	if n < 1 || n > len(list) {
		return nil, api.ErrNone
	}
	return list[n-1], api.OK
}

// each returns what a function makes of the parts of a list.
func each[S, T any](list []S, of func(S) T) []T {
	var made []T
	for _, x := range list {
		made = append(made, of(x))
	}
	return made
}

func twin[T any](x *T) *T {
	y := *x
	return &y
}
