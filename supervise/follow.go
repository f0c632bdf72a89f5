package supervise

import (
	"slices"

	"seedbed/api"
)

// rules returns which services i are restarted beside the service n, for each rule.
func rules() map[int]func(i, n int) bool {
	return map[int]func(i, n int) bool{
		api.ROne:  func(i, n int) bool { return false },
		api.RAll:  func(i, n int) bool { return i != n },
		api.RRest: func(i, n int) bool { return i > n },
	}
}

// follow does what follows of the end of a service, and returns the orders for that.
func (w *Warden) follow(n int, s *service, f api.Fault) []api.Order {
	switch {
	case w.quit, s.state == api.SRuns && !s.restarts(f):
		s.become(api.SGone)
		return nil
	case s.state == api.SStops:
		s.become(api.SOff)
		return w.begin()
	}
	earlier := w.count()
	if earlier >= w.most {
		return w.giveUp(s)
	}
	w.delay = max(w.delay, min(w.base<<earlier, w.cap))
	s.become(api.SOff)
	beside := rules()[w.rule]
	orders := w.stop(func(i int) bool { return beside(i, n) }, api.SOff)
	return append(orders, w.begin()...)
}

// restarts says whether a service that runs is restarted when it ends with a fault.
func (s *service) restarts(f api.Fault) bool {
	return s.when == api.WAlways || s.when == api.WFailed && f.Kind == api.FThrow
}

func (s *service) become(state int) { s.state, s.due = state, 0 }

// count counts a restart, and returns how many earlier ones still count against most.
func (w *Warden) count() int {
	earlier := 0
	for _, at := range slices.Backward(w.restarts) {
		if at <= w.now-w.within {
			break
		}
		earlier++
	}
	w.restarts = append(w.restarts, w.now)
	return earlier
}

func (w *Warden) giveUp(s *service) []api.Order {
	w.quit = true
	s.become(api.SGone)
	for _, other := range w.up() {
		if other.state == api.SOff {
			other.become(api.SGone)
		}
	}
	orders := w.stop(func(int) bool { return true }, api.SGone)
	return append([]api.Order{{Kind: api.OGiveUp}}, orders...)
}

// stop stops those of some services that run; those that are due get another state.
func (w *Warden) stop(named func(int) bool, dueTo int) []api.Order {
	var orders []api.Order
	for n, s := range w.down() {
		switch {
		case !named(n):
		case s.state == api.SRuns:
			s.become(api.SStops)
			orders = append(orders, api.Order{Kind: api.OStop, N: n})
		case s.state == api.SDue:
			s.become(dueTo)
		}
	}
	return orders
}

// begin begins the group, unless a service still stops.
func (w *Warden) begin() []api.Order {
	if w.any(func(s service) bool { return s.state == api.SStops }) {
		return nil
	}
	at := min(w.now+w.delay, api.MaxTime)
	w.delay = 0
	var orders []api.Order
	for n, s := range w.up() {
		if s.state == api.SOff {
			s.state, s.due = api.SDue, at
			orders = append(orders, api.Order{Kind: api.OStart, N: n, At: at})
		}
	}
	return orders
}
