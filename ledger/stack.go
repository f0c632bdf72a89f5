package ledger

import "slices"

// stack is items, the last one on top.
type stack[T any] struct {
	items []T
}

func (s *stack[T]) size() int { return len(s.items) }

func (s *stack[T]) push(item T) { s.items = append(s.items, item) }

// pop takes the item on top, if there is one.
func (s *stack[T]) pop() (T, bool) {
	item, _, ok := s.take(func(T) bool { return true })
	return item, ok
}

// take takes the uppermost item that fits, and tells how many are above it.
func (s *stack[T]) take(fits func(T) bool) (item T, above int, ok bool) {
	for at, item := range slices.Backward(s.items) {
		if fits(item) {
			s.items = slices.Delete(s.items, at, at+1)
			return item, len(s.items) - at, true
		}
	}
	return item, 0, false
}
