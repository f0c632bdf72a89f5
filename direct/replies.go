package direct

import (
	"seedbed/api"
	"seedbed/shape"
)

// noFault is what a reply with a value has as its fault.
var noFault = api.Fault{}

// usual returns the reply of Usual, if there is one.
func usual(ask api.Ask, n int) api.Answer {
	if !shape.IsAsk(ask) {
		return api.Answer{}
	}
	switch kind := shape.ReplyKind(ask, 0); kind {
	case api.KUnit:
		return api.Answer{}
	case api.KInt:
		return api.Answer{V: api.Value{Kind: kind, N: n}}
	default:
		return api.Answer{V: api.Value{Kind: kind, N: max(n, 1)}}
	}
}
