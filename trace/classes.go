package trace

import "seedbed/api"

// Classes of events that are dependent on each other, whatever their tasks are.
const (
	noClass = iota
	outputs
	scopes // and tasks, shields, cancellations and services
	channels
	locks
)

func classOf(e api.Event) int {
	switch e.Kind {
	case api.VEmit:
		return outputs
	case api.VStart, api.VOpen, api.VLeave, api.VLeft, api.VStrike, api.VCancel, api.VLate, api.VEnd, api.VOrder, api.VShield, api.VUnveil:
		return scopes
	case api.VMake, api.VClose:
		return channels
	case api.VLock, api.VFree:
		return locks
	case api.VWait, api.VGo:
		return classOfAsk(e.N)
	}
	return noClass
}

// classOfAsk returns the class of an event by which a task waits with an ask, or goes on.
func classOfAsk(kind int) int {
	switch kind {
	case api.AAwait, api.ALeave:
		return scopes
	case api.ASend, api.AReceive, api.ASelect, api.ASleep:
		return channels
	case api.AHold:
		return locks
	}
	return noClass
}
