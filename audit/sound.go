package audit

import (
	"slices"

	"seedbed/api"
)

// run is what has to be known of a run, whose parts have the numbers from 1 on.
type run interface {
	Task(n int) (api.View, api.Errno)
	Scope(n int) (api.ScopeState, api.Errno)
	Chan(n int) (api.ChanState, api.Errno)
	Lock(n int) (api.LockState, api.Errno)
	Pending(task int) bool
	Awaits(task int) int // 0: no task
}

// isSound reports whether P24.3 to P24.5 hold for a run.
func isSound(r run) bool {
	tasks := func(n int, v api.View) bool { return isTaskSound(r, n, v) }
	scopes := func(_ int, s api.ScopeState) bool { return isScopeSound(r, s) }
	chans := func(_ int, c api.ChanState) bool { return isChanSound(c) }
	locks := func(_ int, l api.LockState) bool { return l.Free == 0 || len(l.Waiting) == 0 }
	return all(r.Task, tasks) && all(r.Scope, scopes) && all(r.Chan, chans) && all(r.Lock, locks)
}

// all reports whether all parts of a kind are sound.
func all[T any](get func(n int) (T, api.Errno), isSound func(n int, x T) bool) bool {
	for n := 1; ; n++ {
		x, err := get(n)
		if err != api.OK {
			return true
		}
		if !isSound(n, x) {
			return false
		}
	}
}

// isTaskSound reports whether a task that waits is not cancelled, and waits for no task that has ended.
func isTaskSound(r run, n int, v api.View) bool {
	return v.Phase != api.QWaits || !r.Pending(n) && (r.Awaits(n) == 0 || runs(r, r.Awaits(n)))
}

// isScopeSound reports whether a scope and its owner run if one of its tasks does.
func isScopeSound(r run, s api.ScopeState) bool {
	return !s.Over && runs(r, s.Owner) || !slices.ContainsFunc(s.Tasks, func(n int) bool { return runs(r, n) })
}

func runs(r run, task int) bool {
	v, err := r.Task(task)
	return err == api.OK && v.Phase != api.QEnded
}

// isChanSound reports whether those who wait for a channel could not go on: it is not closed, nobody waits for a value that is there, and nobody for somebody else who waits, too.
func isChanSound(c api.ChanState) bool {
	for _, x := range c.Waiters {
		if c.Closed || !x.Send && len(c.Buffer) > 0 || slices.ContainsFunc(c.Waiters, func(y api.Waiter) bool { return meet(x, y) }) {
			return false
		}
	}
	return true
}

// meet reports whether one waiter sends what another party wants to receive.
func meet(x, y api.Waiter) bool {
	return x.Send && !y.Send && x.Ticket/api.MaxCases != y.Ticket/api.MaxCases
}
