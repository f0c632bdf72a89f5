package debugger

import (
	"maps"
	"slices"

	"seedbed/api"
	"seedbed/world"
)

// waits tells for whom the tasks of a run wait.
type waits struct{ *world.World }

// reasons returns for whom a task waits directly, by the kind of the ask with which it waits.
func reasons() map[int]func(waits, int) []int {
	return map[int]func(waits, int) []int{
		api.AAwait: waits.awaited,
		api.AHold:  waits.holders,
		api.ALeave: waits.inside,
	}
}

// all returns for whom a task waits, directly or not.
func (w waits) all(task int) []int {
	why, found := reasons(), map[int]bool{}
	for list := []int{task}; len(list) > 0; list = list[1:] {
		v, _ := w.Task(list[0])
		reason, ok := why[v.Ask]
		if !ok {
			continue
		}
		for _, n := range reason(w, list[0]) {
			if !found[n] {
				found[n] = true
				list = append(list, n)
			}
		}
	}
	return slices.Sorted(maps.Keys(found))
}

// awaited returns the task for whose end one waits.
func (w waits) awaited(task int) []int { return []int{w.Awaits(task)} }

// holders returns those who hold permits of the lock for which one waits.
func (w waits) holders(task int) []int {
	var list []int
	for n := 1; ; n++ {
		l, err := w.Lock(n)
		if err != api.OK {
			return list
		}
		if slices.Contains(l.Waiting, task) {
			for _, h := range l.Holders {
				list = append(list, h.Party)
			}
		}
	}
}

// inside returns those who run in the scope that one leaves, which is its innermost open link.
func (w waits) inside(task int) []int {
	chain, _ := w.Chain(task)
	scope, _ := w.Scope(chain[0].N)
	return slices.DeleteFunc(scope.Tasks, func(n int) bool {
		v, _ := w.Task(n)
		return v.Phase == api.QEnded
	})
}
