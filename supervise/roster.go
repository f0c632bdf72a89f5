package supervise

import (
	"iter"
	"slices"
)

// roster is items that are numbered from 1.
type roster[T any] struct {
	items []T
}

func (r *roster[T]) add(item T) { r.items = append(r.items, item) }

func (r *roster[T]) at(n int) (*T, bool) {
	if n < 1 || n > len(r.items) {
		return nil, false
	}
	return &r.items[n-1], true
}

func (r *roster[T]) any(fits func(T) bool) bool { return slices.ContainsFunc(r.items, fits) }

// up goes from the first item to the last one.
func (r *roster[T]) up() iter.Seq2[int, *T] {
	return func(yield func(int, *T) bool) {
		for i := range r.items {
			if !yield(i+1, &r.items[i]) {
				return
			}
		}
	}
}

// down goes from the last item to the first one.
func (r *roster[T]) down() iter.Seq2[int, *T] {
	return func(yield func(int, *T) bool) {
		for i := range slices.Backward(r.items) {
			if !yield(i+1, &r.items[i]) {
				return
			}
		}
	}
}
