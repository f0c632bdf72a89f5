package channel

import (
	"iter"

	"seedbed/api"
)

// ring holds values in the order in which they came. The cells behind the last one are followed by the first ones.
type ring struct {
	cells       [api.MaxCap]api.Value
	first, size int
}

// put is only called if there is room.
func (r *ring) put(v api.Value) {
	*r.cell(r.size) = v
	r.size++
}

// take is only called if there is a value.
func (r *ring) take() api.Value {
	first := r.cell(0)
	v := *first
	*first = api.Value{}
	r.first = (r.first + 1) % len(r.cells)
	r.size--
	return v
}

// all visits the values, the first one first.
func (r *ring) all() iter.Seq[api.Value] {
	return func(yield func(api.Value) bool) {
		for at := range r.size {
			if !yield(*r.cell(at)) {
				return
			}
		}
	}
}

// cell is the one for the value at a position.
func (r *ring) cell(at int) *api.Value { return &r.cells[(r.first+at)%len(r.cells)] }
