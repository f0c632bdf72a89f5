package direct

import (
	"seedbed/api"
	"seedbed/eval"
)

// noFault is what a reply with a value has as its fault.
var noFault = api.Fault{}

// replyKinds holds the kinds of the values that asks are replied to with, by the kind of the ask, but for ASelect.
var replyKinds = [api.ARelease + 1]int{
	api.ANow:     api.KInt,
	api.ASpawn:   api.KTask,
	api.AAwait:   api.KInt,
	api.AChan:    api.KChan,
	api.AReceive: api.KInt,
	api.ALock:    api.KLock,
}

func isAsk(ask api.Ask) bool { return ask.Kind >= api.AYield && ask.Kind <= api.ARelease }

// replyKind returns the kind of the value of a reply with an index.
func replyKind(ask api.Ask, index int) int {
	switch {
	case ask.Kind != api.ASelect:
		return replyKinds[ask.Kind]
	case index < len(ask.Arms) && ask.Arms[index].Op == api.CReceive:
		return api.KInt
	}
	return api.KUnit
}

// lastIndex returns the greatest index of a reply. It is -1 for an ASelect that can't go on.
func lastIndex(ask api.Ask) int {
	switch {
	case ask.Kind != api.ASelect:
		return 0
	case ask.N == 1:
		return len(ask.Arms)
	}
	return len(ask.Arms) - 1
}

// fits reports whether a reply fits an ask of some kind.
func fits(ask api.Ask, r api.Answer) bool {
	if r.Fault != noFault {
		return eval.ValidFault(r.Fault) && canFail(ask, r.Fault) && r == api.Answer{Fault: r.Fault}
	}
	return r.Index >= 0 && r.Index <= lastIndex(ask) && eval.Valid(r.V) && r.V.Kind == replyKind(ask, r.Index)
}

// canFail reports whether an ask can be replied to with a fault.
func canFail(ask api.Ask, fault api.Fault) bool {
	return fault.Kind == api.FThrow || IsPoint(ask) || ask.Kind == api.ALeave
}

// usual returns the reply of Usual, if there is one.
func usual(ask api.Ask, n int) api.Answer {
	if !isAsk(ask) {
		return api.Answer{}
	}
	switch kind := replyKind(ask, 0); kind {
	case api.KUnit:
		return api.Answer{}
	case api.KInt:
		return api.Answer{V: api.Value{Kind: kind, N: n}}
	default:
		return api.Answer{V: api.Value{Kind: kind, N: max(n, 1)}}
	}
}
