package audit

import (
	"slices"

	"seedbed/api"
)

// rule reports whether an event breaks it.
type rule func(j *judge, e api.Event) bool

// judge asks the rules of one event after the other.
type judge struct {
	book
	rules    []rule // from 1 on
	findings []api.Finding
}

func newJudge() *judge {
	rules := []rule{
		(*judge).goesBack,
		(*judge).isOutside,
		(*judge).isMisplaced,
		(*judge).isEarly,
		(*judge).isForeign,
		(*judge).isNotLast,
		(*judge).isNotHeld,
		(*judge).isCrossed,
		(*judge).isLeak,
		(*judge).isUntidy,
		(*judge).isAsleep,
	}
	return &judge{book: newBook(), rules: rules}
}

// judge asks the rules of an event, and then lets it have its effect. Of an event that is no task's only the first rule is asked.
func (j *judge) judge(at int, e api.Event) {
	asked := j.rules
	if e.Task == 0 {
		asked = asked[:1]
	}
	for i, breaks := range asked {
		if breaks(j, e) {
			j.findings = append(j.findings, api.Finding{At: at, Rule: i + 1})
		}
	}
	j.enter(e)
}

func (b *book) goesBack(e api.Event) bool { return e.At < b.now }

func (b *book) isOutside(e api.Event) bool {
	t := b.task(e.Task)
	return t.ended || t.begun == (e.Kind == api.VStart)
}

func (b *book) isMisplaced(e api.Event) bool {
	switch s := b.scope(e.N); e.Kind {
	case api.VStart:
		return e.N != 0 && !s.open
	case api.VOpen:
		return s.known
	}
	return false
}

func (b *book) isEarly(e api.Event) bool {
	s := b.scope(e.N)
	return e.Kind == api.VLeft && s.open && s.running > 0
}

func (b *book) isForeign(e api.Event) bool {
	s := b.scope(e.N)
	return isLeaving(e) && !(s.open && s.owner == e.Task)
}

func (b *book) isNotLast(e api.Event) bool {
	links := b.task(e.Task).links
	switch {
	case e.Kind == api.VUnveil:
		return !endsWith(links, shield())
	case isLeaving(e):
		return !endsWith(links, scopeLink(e.N))
	}
	return false
}

func (b *book) isNotHeld(e api.Event) bool {
	return (e.Kind == api.VRelease || e.Kind == api.VLeak) && !slices.Contains(b.task(e.Task).held, e.N)
}

func (b *book) isCrossed(e api.Event) bool {
	held := b.task(e.Task).held
	return e.Kind == api.VRelease && slices.Contains(held, e.N) && !endsWith(held, e.N)
}

func (b *book) isLeak(e api.Event) bool { return e.Kind == api.VLeak }

func (b *book) isUntidy(e api.Event) bool {
	t := b.task(e.Task)
	return e.Kind == api.VEnd && len(t.links)+len(t.held) > 0
}

// isAsleep reports whether an event is the deed of a task that waits.
func (b *book) isAsleep(e api.Event) bool {
	switch e.Kind {
	case api.VWait, api.VAcquire, api.VRelease, api.VEmit, api.VOpen, api.VShield, api.VUnveil, api.VMake, api.VLock, api.VClose, api.VFree, api.VStrike:
		return b.task(e.Task).waits
	}
	return false
}

func isLeaving(e api.Event) bool { return e.Kind == api.VLeave || e.Kind == api.VLeft }

func endsWith[T comparable](list []T, x T) bool {
	return len(list) > 0 && list[len(list)-1] == x
}
