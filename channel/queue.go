package channel

import (
	"iter"

	"seedbed/api"
)

// node is a waiter of a linked list.
type node struct {
	api.Waiter
	next *node
}

// queue holds waiters in the order in which they were parked.
type queue struct{ first *node }

// all visits the waiters, the first one first.
func (q *queue) all() iter.Seq[api.Waiter] {
	return func(yield func(api.Waiter) bool) {
		for n := q.first; n != nil; n = n.next {
			if !yield(n.Waiter) {
				return
			}
		}
	}
}

func (q *queue) add(w api.Waiter) {
	end := &q.first
	for *end != nil {
		end = &(*end).next
	}
	*end = &node{Waiter: w}
}

// remove removes the first waiter that is the right one, and reports whether there was one.
func (q *queue) remove(isRight func(api.Waiter) bool) (api.Waiter, bool) {
	for link := &q.first; *link != nil; link = &(*link).next {
		if n := *link; isRight(n.Waiter) {
			*link = n.next
			return n.Waiter, true
		}
	}
	return api.Waiter{}, false
}

func (q *queue) clone() queue {
	var other queue
	end := &other.first
	for w := range q.all() {
		*end = &node{Waiter: w}
		end = &(*end).next
	}
	return other
}

func isSender(w api.Waiter) bool { return w.Send }

func isReceiver(w api.Waiter) bool { return !w.Send }
