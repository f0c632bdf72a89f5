package debugger

import (
	"slices"

	"seedbed/api"
	"seedbed/world"
)

// span is how far those positions are from each other at which a tape keeps a copy of its run.
const span = 16

// tape is a run that can be wound to any position.
type tape struct {
	picks []int
	steps [][]api.Event        // the events of each step
	marks map[int]*world.World // copies of the run, by their positions
}

// record makes steps by picks, as many as can be made, from the beginning of a run on. That is kept as it is.
func record(begin *world.World, picks []int) tape {
	t := tape{picks: slices.Clone(picks), marks: map[int]*world.World{0: begin}}
	run, known := begin.Copy(), len(begin.Trace())
	for _, pick := range picks {
		if run.Step(pick) != api.OK {
			break
		}
		events := run.Since(known)
		known += len(events)
		t.steps = append(t.steps, events)
		if at := len(t.steps); at%span == 0 {
			t.marks[at] = run.Copy()
		}
	}
	return t
}

// wind returns the run as it is at a position. It begins at the nearest copy that is not after it.
func (t *tape) wind(p int) *world.World {
	from := p - p%span
	run := t.marks[from].Copy()
	for _, pick := range t.picks[from:p] {
		run.Step(pick)
	}
	return run
}
