package world

import (
	"slices"

	"seedbed/steal"
)

// dispatcher knows which tasks of a run stand in the queues of a pool.
type dispatcher struct {
	run    *World
	pool   *steal.Pool
	queued map[int]bool
}

// put puts all ready tasks that stand in no queue after that of a worker.
func (d dispatcher) put(worker int) {
	for _, n := range d.run.Ready() {
		if !d.queued[n] {
			d.queued[n] = true
			d.pool.Put(worker, n)
		}
	}
}

// pick returns the position among the ready tasks of the next one of a worker: what stands in a queue is ready until it is stepped. It is 0 if there is none.
func (d dispatcher) pick(worker, seed int) int {
	n, _, ok := d.pool.Next(worker, seed)
	if !ok {
		return 0
	}
	delete(d.queued, n)
	return slices.Index(d.run.Ready(), n)
}
