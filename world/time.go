package world

import "seedbed/api"

// next returns the least time that somebody waits for.
func (w *World) next() (int, bool) {
	least, found := 0, false
	take := func(at int, ok bool) {
		if ok && (!found || at < least) {
			least, found = at, true
		}
	}
	take(w.grove.Next())
	take(w.board.Next())
	for i := range w.spec.Services {
		state, at := w.warden.State(i + 1)
		take(at, state == api.SDue)
	}
	return least, found
}

// advance continues to a time.
func (w *World) advance(to int) {
	deals, _ := w.board.Advance(to)
	w.note(api.Event{Kind: api.VTime})
	w.expire(to)
	w.deal(deals)
	for i := range w.spec.Services {
		state, at := w.warden.State(i + 1)
		if state == api.SDue && at <= to {
			w.start(i + 1)
		}
	}
}

// expire lets deadlines come. As time never passes one by, all that come now have the same time.
func (w *World) expire(to int) {
	for i, at := range w.until {
		if at >= 0 && at <= to {
			w.until[i] = -1
			w.note(api.Event{Kind: api.VLate, N: i + 1})
		}
	}
	effects, _ := w.grove.Expire(to)
	w.follow(effects)
}
