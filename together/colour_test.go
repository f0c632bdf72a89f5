package together

import (
	"testing"

	"seedbed/api"
	"seedbed/colour"
	"seedbed/direct"
)

// did is what a coroutine did, as a colour.
func did(x run) int {
	sum := 0
	for _, turn := range x.turns {
		ask := turn.Ask
		switch {
		case turn.Done && turn.Fault.Kind == api.FThrow:
			sum |= 4
		case turn.Done:
		case direct.IsPoint(ask) || ask.Kind == api.ALeave:
			sum |= 1 | 2
		case ask.Kind == api.ASpawn:
			sum |= 1 | 8
		default:
			sum |= 1
		}
	}
	return sum
}

// TestP63Runs checks that functions ask, wait, throw and make tasks only if their colours say so, as long as no reply has an FThrow; and so that a quiet function is done at once (P8.4).
func TestP63Runs(t *testing.T) {
	t.Parallel()
	still, calm := 0, 0
	runs(t, 700, func(m *maker) world { return world{r: m.r, cancels: 8} }, func(x run) {
		colours, err := colour.Colours(x.p)
		if err != api.OK {
			t.Fatalf("Colours of %s: %d", x.source, err)
		}
		mine := colours[x.fn]
		if got := did(x); got&^mine != 0 {
			t.Fatalf("%s: function %d does %d, its colour is %d", x.source, x.fn, got, mine)
		}
		quiet, err := colour.Quiet(x.p, x.fn)
		if quiet != (mine&1 == 0) || err != api.OK {
			t.Fatalf("%s: Quiet(%d) = %t, %d", x.source, x.fn, quiet, err)
		}
		if quiet && !x.fuel && !x.turns[0].Done {
			t.Fatalf("%s: function %d asks for %v", x.source, x.fn, x.turns[0].Ask)
		}
		if quiet {
			still++
		}
		if mine&4 == 0 {
			calm++
		}
	})
	if still < 200 || calm < 200 {
		t.Errorf("only %d coroutines of quiet functions, %d of such as throw nothing", still, calm)
	}
}
