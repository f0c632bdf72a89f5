package choose

import "seedbed/api"

// wait is what a party waits with: where each of its arms stands.
type wait [api.MaxCases]place

// place is a channel or a timer; zero: an arm does not stand.
type place struct{ channel, timer int }

// ticket is that of an arm of a party.
func ticket(party, index int) int { return party*api.MaxCases + index }

// split returns the party of a ticket, and the position of its arm.
func split(ticket int) (party, index int) { return ticket / api.MaxCases, ticket % api.MaxCases }

// hasRoom reports whether there is room for all arms to stand.
func (b *Board) hasRoom(arms []api.Arm) bool {
	timers := len(b.timers)
	waiters := map[int]int{} // by channel
	for _, a := range arms {
		if a.Op == api.CAfter {
			timers++
			if timers > api.MaxTimers || a.N > api.MaxTime-b.clock.Now() {
				return false
			}
			continue
		}
		c := a.V.N
		if _, known := waiters[c]; !known {
			waiters[c] = len(b.chans[c-1].State().Waiters)
		}
		waiters[c]++
		if waiters[c] > api.MaxWaits {
			return false
		}
	}
	return true
}

// stand lets a party wait with arms for which there is room.
func (b *Board) stand(party int, arms []api.Arm) {
	var w wait
	for index, a := range arms {
		w[index] = b.standArm(ticket(party, index), a)
	}
	if b.waits == nil {
		b.waits = map[int]wait{}
	}
	b.waits[party] = w
}

func (b *Board) standArm(ticket int, a api.Arm) place {
	if a.Op != api.CAfter {
		b.chans[a.V.N-1].Park(ticket, a.Op == api.CSend, a.W)
		return place{channel: a.V.N}
	}
	id, _ := b.clock.Arm(b.clock.Now() + a.N)
	if b.timers == nil {
		b.timers = map[int]int{}
	}
	b.timers[id] = ticket
	return place{timer: id}
}

// end ends the wait of a party, and reports whether it waited. Every wait ends here.
func (b *Board) end(party int) bool {
	defer b.remove(party)
	return b.isWaiting(party)
}

// remove removes what a party waits with, whether or not some of it has been removed.
func (b *Board) remove(party int) {
	for index, p := range b.waits[party] {
		if p.channel > 0 {
			b.chans[p.channel-1].Withdraw(ticket(party, index))
		}
		if p.timer > 0 {
			b.clock.Disarm(p.timer)
			delete(b.timers, p.timer)
		}
	}
	delete(b.waits, party)
}
