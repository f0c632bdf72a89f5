package lock

import (
	"maps"
	"slices"

	"seedbed/api"
)

// permits is a lock: its permits are those that are free and those that are held.
type permits struct {
	total, free int
	held        map[int]int // how many parties hold, by party; those that hold none are not there
	waiting     []int       // parties, in the order in which they asked
}

func newPermits(n int) *permits {
	return &permits{total: n, free: n, held: map[int]int{}}
}

// giveBack is only called of a party that holds a permit.
func (l *permits) giveBack(party int) {
	l.free++
	l.held[party]--
	if l.held[party] == 0 {
		delete(l.held, party)
	}
}

// passOn gives a free permit to the first party that waits, and returns it; 0: none waits.
func (l *permits) passOn() int {
	if len(l.waiting) == 0 {
		return 0
	}
	first := l.waiting[0]
	l.waiting = l.waiting[1:]
	l.free--
	l.held[first]++
	return first
}

// forget removes a party from those that wait.
func (l *permits) forget(party int) {
	at := slices.Index(l.waiting, party)
	l.waiting = slices.Delete(l.waiting, at, at+1)
}

func (l *permits) state() api.LockState {
	s := api.LockState{Permits: l.total, Free: l.free, Waiting: slices.Clone(l.waiting)}
	for _, party := range slices.Sorted(maps.Keys(l.held)) {
		s.Holders = append(s.Holders, api.Holder{Party: party, N: l.held[party]})
	}
	return s
}

func (l *permits) clone() *permits {
	return &permits{total: l.total, free: l.free, held: maps.Clone(l.held), waiting: slices.Clone(l.waiting)}
}
