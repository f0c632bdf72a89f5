package shape

import "seedbed/api"

// replyKinds holds the kinds of the values that asks are replied to with, by the kind of the ask, but for ASelect.
var replyKinds = [api.ARelease + 1]int{
	api.ANow:     api.KInt,
	api.ASpawn:   api.KTask,
	api.AAwait:   api.KInt,
	api.AChan:    api.KChan,
	api.AReceive: api.KInt,
	api.ALock:    api.KLock,
}

// ValidFault reports whether a fault is valid.
func ValidFault(f api.Fault) bool {
	switch f.Kind {
	case api.FNone, api.FCancel:
		return f.Text == ""
	case api.FThrow:
		return IsText(f.Text)
	}
	return false
}

// IsAsk reports whether an ask is of some kind.
func IsAsk(ask api.Ask) bool { return ask.Kind >= api.AYield && ask.Kind <= api.ARelease }

// IsPoint reports whether an ask is a point.
func IsPoint(ask api.Ask) bool {
	switch ask.Kind {
	case api.AYield, api.ASleep, api.AAwait, api.ASend, api.AReceive, api.AHold, api.ASelect:
		return true
	}
	return false
}

// ReplyKind returns the kind of the value of a reply with an index to an ask of some kind.
func ReplyKind(ask api.Ask, index int) int {
	switch {
	case ask.Kind != api.ASelect:
		return replyKinds[ask.Kind]
	case index < len(ask.Arms) && ask.Arms[index].Op == api.CReceive:
		return api.KInt
	}
	return api.KUnit
}

// Fits reports whether a reply fits an ask (see shared/doc/08-direct.md).
func Fits(ask api.Ask, r api.Answer) bool {
	switch {
	case !IsAsk(ask):
		return false
	case r.Fault != api.Fault{}:
		return ValidFault(r.Fault) && canFail(ask, r.Fault) && r == api.Answer{Fault: r.Fault}
	}
	return r.Index >= 0 && r.Index <= lastIndex(ask) && Valid(r.V) && r.V.Kind == ReplyKind(ask, r.Index)
}

// lastIndex returns the greatest index of a reply. It is -1 for an ASelect that can't go on.
func lastIndex(ask api.Ask) int {
	switch {
	case ask.Kind != api.ASelect:
		return 0
	case ask.N == 1:
		return len(ask.Arms)
	}
	return len(ask.Arms) - 1
}

// canFail reports whether an ask can be replied to with a fault.
func canFail(ask api.Ask, fault api.Fault) bool {
	return fault.Kind == api.FThrow || IsPoint(ask) || ask.Kind == api.ALeave
}
