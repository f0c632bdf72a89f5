package clock

import (
	"cmp"
	"iter"
	"math/bits"
	"slices"

	"seedbed/api"
)

// The groups of bits of a time: the levels of a wheel have a slot for each value of a group.
const (
	levels    = 7
	groupBits = 6
	slots     = 1 << groupBits
	lastPlace = levels*slots - 1
)

// wheel holds timers, each at its place, and those of one place in their order. Timers at a lower place are earlier than those at a higher one.
type wheel [levels][slots][]api.Timer

// place is the place of a timer: the slots of the lowest level come first. What is for now has no group in which it is not the same, and is on the lowest level.
func place(at, now int) int {
	level := (bits.Len(uint(at^now)|1) - 1) / groupBits
	return level*slots + at>>(level*groupBits)%slots
}

// upTo visits the places up to one of them.
func (w *wheel) upTo(last int) iter.Seq[*[]api.Timer] {
	return func(yield func(*[]api.Timer) bool) {
		for n := range last + 1 {
			if !yield(&w[n/slots][n%slots]) {
				return
			}
		}
	}
}

// timers visits the timers in their order.
func (w *wheel) timers() iter.Seq[api.Timer] {
	return func(yield func(api.Timer) bool) {
		for list := range w.upTo(lastPlace) {
			for _, t := range *list {
				if !yield(t) {
					return
				}
			}
		}
	}
}

func (w *wheel) count() int {
	n := 0
	for list := range w.upTo(lastPlace) {
		n += len(*list)
	}
	return n
}

func (w *wheel) put(t api.Timer, now int) {
	n := place(t.At, now)
	list := &w[n/slots][n%slots]
	at, _ := slices.BinarySearchFunc(*list, t, inOrder)
	*list = slices.Insert(*list, at, t)
}

// remove reports whether a timer was there.
func (w *wheel) remove(id int) bool {
	for list := range w.upTo(lastPlace) {
		at := slices.IndexFunc(*list, func(t api.Timer) bool { return t.ID == id })
		if at >= 0 {
			*list = slices.Delete(*list, at, at+1)
			return true
		}
	}
	return false
}

// take removes all timers up to a place. If time goes on to that place, no others change their places.
func (w *wheel) take(last int) []api.Timer {
	var taken []api.Timer
	for list := range w.upTo(last) {
		taken = append(taken, *list...)
		*list = nil
	}
	return taken
}

func (w *wheel) clone() wheel {
	v := *w
	for list := range v.upTo(lastPlace) {
		*list = slices.Clone(*list)
	}
	return v
}

// inOrder compares timers in their order.
func inOrder(t, u api.Timer) int {
	return cmp.Or(cmp.Compare(t.At, u.At), cmp.Compare(t.ID, u.ID))
}
