package audit

import (
	"slices"

	"seedbed/api"
)

// past is the events before one, of which each question is answered by going through them again.
type past []api.Event

// last returns the position of the last event of a task (0: any) that fits; -1, if there is none.
func (p past) last(task int, fits func(e api.Event) bool) int {
	for at, e := range slices.Backward(p) {
		if e.Task != 0 && (task == 0 || e.Task == task) && fits(e) {
			return at
		}
	}
	return -1
}

func is(kinds ...int) func(e api.Event) bool {
	return func(e api.Event) bool { return slices.Contains(kinds, e.Kind) }
}

func isOf(n int, kinds ...int) func(e api.Event) bool {
	return func(e api.Event) bool { return e.N == n && slices.Contains(kinds, e.Kind) }
}

func (p past) begun(task int) bool { return p.last(task, is(api.VStart)) >= 0 }

func (p past) ended(task int) bool {
	at := p.last(task, is(api.VStart, api.VEnd))
	return at >= 0 && p[at].Kind == api.VEnd
}

func (p past) waits(task int) bool {
	at := p.last(task, is(api.VWait, api.VGo))
	return at >= 0 && p[at].Kind == api.VWait
}

// opening returns the position at which a scope that is open was opened last; -1, if it is not open.
func (p past) opening(n int) int {
	at := p.last(0, isOf(n, api.VOpen, api.VLeft))
	if at >= 0 && p[at].Kind == api.VLeft {
		return -1
	}
	return at
}

// hasTask reports whether a task of a scope has begun, and not ended.
func (p past) hasTask(n int) bool {
	for _, e := range p {
		if e.Task != 0 && e.Kind == api.VStart && !p.ended(e.Task) && p[p.last(e.Task, is(api.VStart))].N == n {
			return true
		}
	}
	return false
}

// sinceEnd returns the positions of the events of a task after its last end.
func (p past) sinceEnd(task int) []int {
	var list []int
	for at := p.last(task, is(api.VEnd)) + 1; at < len(p); at++ {
		if p[at].Task == task {
			list = append(list, at)
		}
	}
	return list
}

// links returns the numbers of the open scopes of a task, and -1 beneath all of them for shields, in order.
func (p past) links(task int) []api.Link {
	var opened []int // positions
	for _, at := range p.sinceEnd(task) {
		switch e := p[at]; e.Kind {
		case api.VShield:
			opened = append(opened, at)
		case api.VOpen:
			if p.opening(e.N) == at {
				opened = append(opened, at)
			}
		case api.VUnveil:
			// Which shield this removes does not depend on scopes.
			for i, other := range slices.Backward(opened) {
				if p[other].Kind == api.VShield {
					opened = slices.Delete(opened, i, i+1)
					break
				}
			}
		}
	}
	var list []api.Link
	for _, at := range opened {
		if p[at].Kind == api.VShield {
			list = append(list, api.Link{Kind: api.LShield})
			continue
		}
		list = append(list, api.Link{Kind: api.LScope, N: p[at].N})
	}
	return list
}

// held returns what a task holds. Each release or leak takes away the last acquisition before it that nothing has taken away.
func (p past) held(task int) []int {
	var list []int
	for _, at := range p.sinceEnd(task) {
		switch e := p[at]; e.Kind {
		case api.VAcquire:
			list = append(list, e.N)
		case api.VRelease, api.VLeak:
			slices.Reverse(list)
			if i := slices.Index(list, e.N); i >= 0 {
				list = slices.Delete(list, i, i+1)
			}
			slices.Reverse(list)
		}
	}
	return list
}

// breaks says whether an event breaks a rule, as the chapter's table has it.
func (p past) breaks(rule int, e api.Event) bool {
	links, held := p.links(e.Task), p.held(e.Task)
	leaves := e.Kind == api.VLeave || e.Kind == api.VLeft
	var last api.Link
	if len(links) > 0 {
		last = links[len(links)-1]
	}
	holds := slices.Contains(held, e.N)
	switch rule {
	case 1:
		return len(p) > 0 && e.At < p[len(p)-1].At
	case 2:
		return p.ended(e.Task) || !p.begun(e.Task) && e.Kind != api.VStart || p.begun(e.Task) && e.Kind == api.VStart
	case 3:
		return e.Kind == api.VStart && e.N != 0 && p.opening(e.N) < 0 || e.Kind == api.VOpen && p.last(0, isOf(e.N, api.VOpen)) >= 0
	case 4:
		return e.Kind == api.VLeft && p.opening(e.N) >= 0 && p.hasTask(e.N)
	case 5:
		return leaves && (p.opening(e.N) < 0 || p[p.opening(e.N)].Task != e.Task)
	case 6:
		return e.Kind == api.VUnveil && last.Kind != api.LShield || leaves && last != api.Link{Kind: api.LScope, N: e.N}
	case 7:
		return (e.Kind == api.VRelease || e.Kind == api.VLeak) && !holds
	case 8:
		return e.Kind == api.VRelease && holds && held[len(held)-1] != e.N
	case 9:
		return e.Kind == api.VLeak
	case 10:
		return e.Kind == api.VEnd && (len(links) > 0 || len(held) > 0)
	}
	does := is(api.VAcquire, api.VRelease, api.VEmit, api.VOpen, api.VShield, api.VUnveil, api.VMake, api.VLock, api.VClose, api.VFree, api.VStrike)
	return p.waits(e.Task) && (e.Kind == api.VWait || does(e))
}

// second is Check once more.
func second(l []api.Event) []api.Finding {
	var list []api.Finding
	for at, e := range l {
		for rule := 1; rule <= 11; rule++ {
			if (rule == 1 || e.Task != 0) && past(l[:at]).breaks(rule, e) {
				list = append(list, api.Finding{At: at, Rule: rule})
			}
		}
	}
	return list
}
