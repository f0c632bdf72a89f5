package supervise

import (
	"math"
	"reflect"
	"slices"
	"strings"
	"testing"

	"seedbed/api"
)

var (
	none      = api.Fault{}
	cancelled = api.Fault{Kind: api.FCancel}
	thrown    = api.Fault{Kind: api.FThrow, Text: "x"}
)

func start(n, at int) api.Order { return api.Order{Kind: api.OStart, N: n, At: at} }

func stop(n int) api.Order { return api.Order{Kind: api.OStop, N: n} }

func giveUp() api.Order { return api.Order{Kind: api.OGiveUp} }

func done() api.Order { return api.Order{Kind: api.ODone} }

// spec is a specification with as many restarts as one likes, without a delay.
func spec(rule int, whens ...int) api.Spec {
	s := api.Spec{Rule: rule, Most: api.MaxMost, Within: 1}
	for _, when := range whens {
		s.Services = append(s.Services, api.Service{When: when})
	}
	return s
}

// always is as many services as one likes that are always restarted.
func always(n int) []int { return slices.Repeat([]int{api.WAlways}, n) }

// builder does with a warden what must succeed, and checks what it returns.
type builder struct {
	*Warden
	t *testing.T
}

func build(t *testing.T, s api.Spec) builder {
	t.Helper()
	w, err := New(s)
	if err != api.OK {
		t.Fatalf("New(%+v): %d", s, err)
	}
	return builder{w, t}
}

func (b builder) copy() builder { return builder{b.Copy(), b.t} }

func (b builder) ended(n int, f api.Fault, now int, want ...api.Order) {
	b.t.Helper()
	list, err := b.Ended(n, f, now)
	if len(list)+len(want) > 0 && !reflect.DeepEqual(list, want) || err != api.OK {
		b.t.Errorf("Ended(%d, %v, %d) = %v, %d, want %v", n, f, now, list, err, want)
	}
}

// started starts services one after the other.
func (b builder) started(now int, ns ...int) {
	b.t.Helper()
	for _, n := range ns {
		if err := b.Started(n, now); err != api.OK {
			b.t.Errorf("Started(%d, %d) = %d", n, now, err)
		}
	}
}

// wantStates checks the states of all services; those that are due are due at that time.
func (b builder) wantStates(due int, states ...int) {
	b.t.Helper()
	for i, want := range states {
		wantDue := 0
		if want == api.SDue {
			wantDue = due
		}
		if state, at := b.State(i + 1); state != want || at != wantDue {
			b.t.Errorf("State(%d) = %d, %d, want %d, %d", i+1, state, at, want, wantDue)
		}
	}
	if state, at := b.State(len(states) + 1); state != 0 || at != 0 {
		b.t.Errorf("State(%d) = %d, %d, which is too many", len(states)+1, state, at)
	}
}

func (b builder) wantRestarts(want int) {
	b.t.Helper()
	if n := b.Restarts(); n != want {
		b.t.Errorf("Restarts() = %d, want %d", n, want)
	}
}

func (b builder) wantOver(wantGone, wantQuit bool) {
	b.t.Helper()
	if gone, quit := b.Over(); gone != wantGone || quit != wantQuit {
		b.t.Errorf("Over() = %v, %v, want %v, %v", gone, quit, wantGone, wantQuit)
	}
}

// wantRefused checks an error of Ended, and that it changes nothing.
func (b builder) wantRefused(n int, f api.Fault, now int, want api.Errno) {
	b.t.Helper()
	before := b.all()
	if list, err := b.Ended(n, f, now); list != nil || err != want {
		b.t.Errorf("Ended(%d, %v, %d) = %v, %d, want %d", n, f, now, list, err, want)
	}
	b.wantSame("Ended", before)
}

// wantIdle checks an error of Started, and that it changes nothing.
func (b builder) wantIdle(n, now int, want api.Errno) {
	b.t.Helper()
	before := b.all()
	if err := b.Started(n, now); err != want {
		b.t.Errorf("Started(%d, %d) = %d, want %d", n, now, err, want)
	}
	b.wantSame("Started", before)
}

func (b builder) wantSame(what string, before state) {
	b.t.Helper()
	if after := b.all(); before != after {
		b.t.Errorf("%s has changed %+v to %+v", what, before, after)
	}
}

// state is all that a warden tells.
type state struct {
	states, dues [api.MaxServ + 2]int
	restarts     int
	gone, quit   bool
}

func (b builder) all() state {
	s := state{restarts: b.Restarts()}
	for n := range s.states {
		s.states[n], s.dues[n] = b.State(n)
	}
	s.gone, s.quit = b.Over()
	return s
}

func TestP221Examples(t *testing.T) {
	b := build(t, api.Spec{Rule: api.ROne, Most: 2, Within: 10, Base: 1, Cap: 4, Services: spec(api.ROne, always(2)...).Services})
	b.ended(1, thrown, 0, start(1, 1))
	b.started(1, 1)
	b.ended(1, none, 2, start(1, 4))
	b.started(4, 1)
	b.ended(1, none, 5, giveUp(), stop(2))
	b.ended(2, cancelled, 5, done())
	b = build(t, spec(api.RAll, always(3)...))
	b.ended(2, thrown, 0, stop(3), stop(1))
	b.ended(1, cancelled, 0)
	b.ended(3, cancelled, 0, start(1, 0), start(2, 0), start(3, 0))
	b = build(t, spec(api.ROne, api.WFailed, api.WFailed))
	b.ended(1, cancelled, 0)
	b.wantStates(0, api.SGone, api.SRuns)
}

// sound is a specification every number of which can be less and more.
func sound() api.Spec {
	value := api.Value{Kind: api.KText, S: "a"}
	return api.Spec{Rule: api.RAll, Most: 5, Within: 5, Base: 5, Cap: 5, Services: []api.Service{{Fn: 2, Args: []api.Value{value, {}}, When: api.WFailed}}}
}

// wrong are what makes a specification invalid.
func wrong() map[string]func(*api.Spec) {
	return map[string]func(*api.Spec){
		"rule 0":            func(s *api.Spec) { s.Rule = 0 },
		"rule 4":            func(s *api.Spec) { s.Rule = 4 },
		"rule -1":           func(s *api.Spec) { s.Rule = -1 },
		"most -1":           func(s *api.Spec) { s.Most = -1 },
		"most 21":           func(s *api.Spec) { s.Most = 21 },
		"within 0":          func(s *api.Spec) { s.Within = 0 },
		"within less":       func(s *api.Spec) { s.Within = math.MinInt },
		"within more":       func(s *api.Spec) { s.Within = api.MaxTime + 1 },
		"base -1":           func(s *api.Spec) { s.Base = -1 },
		"base beyond cap":   func(s *api.Spec) { s.Base = 6 },
		"base most":         func(s *api.Spec) { s.Base = math.MaxInt },
		"cap below base":    func(s *api.Spec) { s.Cap = 4 },
		"cap -1":            func(s *api.Spec) { s.Base, s.Cap = -1, -1 },
		"cap more":          func(s *api.Spec) { s.Cap = api.MaxTime + 1 },
		"no services":       func(s *api.Spec) { s.Services = nil },
		"empty services":    func(s *api.Spec) { s.Services = []api.Service{} },
		"9 services":        func(s *api.Spec) { s.Services = slices.Repeat(s.Services, 9) },
		"function -1":       func(s *api.Spec) { s.Services[0].Fn = -1 },
		"5 arguments":       func(s *api.Spec) { s.Services[0].Args = make([]api.Value, 5) },
		"a wrong value":     func(s *api.Spec) { s.Services[0].Args[1].N = 1 },
		"a wrong text":      func(s *api.Spec) { s.Services[0].Args[0].S = "\x1f" },
		"a long text":       func(s *api.Spec) { s.Services[0].Args[0].S = strings.Repeat("a", 61) },
		"an unknown kind":   func(s *api.Spec) { s.Services[0].Args[0] = api.Value{Kind: 7, N: 1} },
		"when 0":            func(s *api.Spec) { s.Services[0].When = 0 },
		"when 4":            func(s *api.Spec) { s.Services[0].When = 4 },
		"second service":    func(s *api.Spec) { s.Services = append(s.Services, api.Service{}) },
		"the last of eight": func(s *api.Spec) { s.Services = append(slices.Repeat(s.Services, 7), api.Service{When: 1, Fn: -1}) },
	}
}

// fine are specifications at their limits.
func fine() map[string]func(*api.Spec) {
	return map[string]func(*api.Spec){
		"as it is":    func(*api.Spec) {},
		"the least":   func(s *api.Spec) { *s = api.Spec{Rule: 1, Within: 1, Services: []api.Service{{When: 1}}} },
		"most 20":     func(s *api.Spec) { s.Most = 20 },
		"within most": func(s *api.Spec) { s.Within = api.MaxTime },
		"cap most":    func(s *api.Spec) { s.Base, s.Cap = api.MaxTime, api.MaxTime },
		"base 0":      func(s *api.Spec) { s.Base = 0 },
		"rule 3":      func(s *api.Spec) { s.Rule = 3 },
		"8 services":  func(s *api.Spec) { s.Services = slices.Repeat(s.Services, 8) },
		"4 arguments": func(s *api.Spec) { s.Services[0].Args = make([]api.Value, 4) },
		"a function":  func(s *api.Spec) { s.Services[0].Fn = math.MaxInt },
		"when 3":      func(s *api.Spec) { s.Services[0].When = 3 },
	}
}

func TestP221Check(t *testing.T) {
	for name, change := range wrong() {
		s := sound()
		change(&s)
		if err := Check(s); err != api.ErrArg {
			t.Errorf("%s: Check = %d", name, err)
		}
		if w, err := New(s); w != nil || err != api.ErrArg {
			t.Errorf("%s: New = %v, %d", name, w, err)
		}
	}
	for name, change := range fine() {
		s := sound()
		change(&s)
		if err := Check(s); err != api.OK {
			t.Errorf("%s: Check = %d", name, err)
		}
		if w, err := New(s); w == nil || err != api.OK {
			t.Errorf("%s: New = %v, %d", name, w, err)
		}
	}
}

func TestP221New(t *testing.T) {
	b := build(t, spec(api.RAll, always(8)...))
	b.wantStates(0, slices.Repeat([]int{api.SRuns}, 8)...)
	b.wantRestarts(0)
	b.wantOver(false, false)
	for _, n := range []int{math.MinInt, -1, 0, 9, math.MaxInt} {
		if state, at := b.State(n); state != 0 || at != 0 {
			t.Errorf("State(%d) = %d, %d", n, state, at)
		}
	}
}

func TestP221Errors(t *testing.T) {
	b := build(t, spec(api.ROne, api.WAlways, api.WNever))
	for _, f := range []api.Fault{{Kind: 3}, {Kind: -1}, {Text: "x"}, {Kind: api.FCancel, Text: "x"}, {Kind: api.FThrow, Text: "\x7f"}, {Kind: api.FThrow, Text: strings.Repeat("a", 61)}} {
		b.wantRefused(1, f, 0, api.ErrArg)
		b.wantRefused(9, f, 0, api.ErrArg)
	}
	for _, now := range []int{math.MinInt, -1, api.MaxTime + 1, math.MaxInt} {
		b.wantRefused(1, none, now, api.ErrArg)
		b.wantRefused(0, none, now, api.ErrArg)
		b.wantIdle(1, now, api.ErrArg)
		b.wantIdle(0, now, api.ErrArg)
	}
	for _, n := range []int{math.MinInt, -1, 0, 3, math.MaxInt} {
		b.wantRefused(n, none, 5, api.ErrNone)
		b.wantIdle(n, 5, api.ErrNone)
	}
	b.wantIdle(1, 5, api.ErrNone)
	b.ended(1, api.Fault{Kind: api.FThrow, Text: strings.Repeat("a", 60)}, 3, start(1, 3))
	b.wantRefused(1, none, 3, api.ErrNone)
	b.wantRefused(1, none, 2, api.ErrArg)
	b.wantIdle(1, 2, api.ErrArg)
	b.started(3, 1)
	b.ended(2, none, 4)
	b.wantRefused(2, none, 4, api.ErrNone)
	b.wantIdle(2, 4, api.ErrNone)
	b.ended(1, none, api.MaxTime, start(1, api.MaxTime))
}

// TestP221Time checks that the time of a warden is that of the last call without an error, whichever it was.
func TestP221Time(t *testing.T) {
	s := spec(api.ROne, always(2)...)
	s.Base, s.Cap = 4, 4
	b := build(t, s)
	b.ended(1, none, 5, start(1, 9))
	b.wantIdle(1, 8, api.ErrPlace)
	b.wantRefused(1, none, 7, api.ErrNone)
	b.wantIdle(2, 6, api.ErrNone)
	b.ended(2, none, 5, start(2, 9))
	b.wantIdle(2, 8, api.ErrPlace)
	b.started(9, 2)
	b.wantIdle(1, 8, api.ErrArg)
	b.wantRefused(2, none, 8, api.ErrArg)
	b.started(20, 1)
	b.wantRefused(2, none, 19, api.ErrArg)
	b.wantRefused(1, none, 19, api.ErrArg)
	b.ended(2, none, 20, start(2, 24))
}

// TestP221When checks with which faults services are restarted.
func TestP221When(t *testing.T) {
	for _, f := range []api.Fault{none, thrown, cancelled} {
		for when := api.WAlways; when <= api.WNever; when++ {
			b := build(t, spec(api.RAll, when, api.WAlways, api.WNever))
			if when == api.WAlways || when == api.WFailed && f == thrown {
				b.ended(1, f, 0, stop(3), stop(2))
				b.wantStates(0, api.SOff, api.SStops, api.SStops)
				b.wantRestarts(1)
			} else {
				b.ended(1, f, 0)
				b.wantStates(0, api.SGone, api.SRuns, api.SRuns)
				b.wantRestarts(0)
			}
		}
	}
}

// TestP221Stopped checks that what was told to stop is started again, however it ends, and whenever it is restarted.
func TestP221Stopped(t *testing.T) {
	for _, f := range []api.Fault{none, thrown, cancelled} {
		b := build(t, spec(api.RAll, api.WAlways, api.WNever, api.WFailed))
		b.ended(1, none, 0, stop(3), stop(2))
		b.ended(2, f, 1)
		b.wantStates(0, api.SOff, api.SOff, api.SStops)
		b.wantRefused(2, f, 1, api.ErrNone)
		b.ended(3, f, 2, start(1, 2), start(2, 2), start(3, 2))
		b.wantRestarts(1)
		b.started(2, 3, 1)
		b.wantStates(2, api.SRuns, api.SDue, api.SRuns)
	}
}

// TestP221Rest checks the services that come after the one that ended, in all states.
func TestP221Rest(t *testing.T) {
	b := build(t, spec(api.RRest, api.WAlways, api.WAlways, api.WNever, api.WAlways, api.WAlways))
	b.ended(3, none, 0)
	b.ended(5, none, 0, start(5, 0))
	b.wantStates(0, api.SRuns, api.SRuns, api.SGone, api.SRuns, api.SDue)
	b.ended(2, none, 1, stop(4))
	b.wantStates(1, api.SRuns, api.SOff, api.SGone, api.SStops, api.SOff)
	b.ended(1, none, 2)
	b.wantStates(2, api.SOff, api.SOff, api.SGone, api.SStops, api.SOff)
	b.ended(4, thrown, 3, start(1, 3), start(2, 3), start(4, 3), start(5, 3))
	b.wantStates(3, api.SDue, api.SDue, api.SGone, api.SDue, api.SDue)
	b.started(3, 1, 2, 5)
	b.ended(5, none, 3, start(5, 3))
	b.ended(2, none, 3, start(2, 3), start(4, 3), start(5, 3))
	b.ended(1, none, 3, start(1, 3), start(2, 3), start(4, 3), start(5, 3))
	b.wantRestarts(6)
}

// TestP221All checks a service that ends while others still stop, and that those that are due wait again.
func TestP221All(t *testing.T) {
	s := spec(api.RAll, always(3)...)
	s.Base, s.Cap = 3, 3
	b := build(t, s)
	b.ended(3, none, 1, stop(2), stop(1))
	b.ended(1, none, 2)
	b.ended(2, none, 4, start(1, 7), start(2, 7), start(3, 7))
	b.started(7, 2)
	b.wantStates(7, api.SDue, api.SRuns, api.SDue)
	b.ended(2, none, 8, start(1, 11), start(2, 11), start(3, 11))
	b.wantIdle(1, 10, api.ErrPlace)
	b.started(11, 1)
	b.started(12, 3)
	b.ended(1, none, 13, stop(3))
	b.wantStates(0, api.SOff, api.SOff, api.SStops)
	b.ended(3, none, 13, start(1, 16), start(2, 16), start(3, 16))
}

// TestP221One checks that others are left alone.
func TestP221One(t *testing.T) {
	s := spec(api.ROne, always(3)...)
	s.Base, s.Cap = 3, 3
	b := build(t, s)
	b.ended(2, none, 1, start(2, 4))
	b.ended(3, none, 2, start(3, 5))
	b.started(4, 2)
	b.wantStates(5, api.SRuns, api.SRuns, api.SDue)
	b.ended(2, none, 4, start(2, 7))
	b.wantIdle(3, 4, api.ErrPlace)
}

func three() []api.Service { return spec(api.ROne, always(3)...).Services }

// TestP221Delay checks how a delay grows with the restarts within the time, and how it falls again.
func TestP221Delay(t *testing.T) {
	b := build(t, api.Spec{Rule: api.ROne, Most: 20, Within: 10, Base: 3, Cap: 50, Services: spec(api.ROne, always(8)...).Services})
	for i, delay := range []int{3, 6, 12, 24, 48, 50, 50} {
		b.ended(i+1, none, i, start(i+1, i+delay))
	}
	b.wantRestarts(7)
	b.ended(8, none, 12, start(8, 12+48)) // four are left: those from 3 to 6
	b.started(60, 1, 2, 3, 4, 5, 6, 7, 8)
	b.ended(3, none, 60, start(3, 63))
	b.ended(4, none, 70, start(4, 73))
	b.ended(5, none, 79, start(5, 85))
	b.ended(6, none, 80, start(6, 86))
	b.wantRestarts(12)
}

// TestP221Window checks that restarts count for as long as their times are above now - Within.
func TestP221Window(t *testing.T) {
	for _, gap := range []int{8, 9, 10, 11} {
		b := build(t, api.Spec{Rule: api.ROne, Most: 1, Within: 10, Base: 1, Cap: 9, Services: three()})
		b.ended(1, none, 7, start(1, 8))
		b.started(8, 1)
		b.wantRestarts(1)
		if gap < 10 {
			b.ended(1, none, 7+gap, giveUp(), stop(3), stop(2))
			b.wantOver(false, true)
		} else {
			b.ended(1, none, 7+gap, start(1, 8+gap))
			b.wantOver(false, false)
		}
		b.wantRestarts(2)
	}
}

// TestP221Kept checks that the greatest delay counts of all those for which a group waits, and none of an earlier group.
func TestP221Kept(t *testing.T) {
	b := build(t, api.Spec{Rule: api.RRest, Most: 9, Within: 4, Base: 2, Cap: 100, Services: spec(api.RRest, always(4)...).Services})
	b.ended(4, none, 0, start(4, 2))
	b.started(2, 4)
	b.ended(3, none, 3, stop(4)) // 4, as one is before it
	b.ended(2, none, 3)          // 8, as two are
	b.ended(1, none, 10)         // 2, as all are too old
	b.ended(4, none, 20, start(1, 28), start(2, 28), start(3, 28), start(4, 28))
	b.started(28, 1, 2, 3, 4)
	b.ended(4, none, 30, start(4, 32))
	b.wantRestarts(5)
}

// TestP221Latest checks that no service is due after MaxTime, whatever the delay.
func TestP221Latest(t *testing.T) {
	services := spec(api.ROne, always(8)...).Services
	b := build(t, api.Spec{Rule: api.ROne, Most: 20, Within: api.MaxTime, Base: api.MaxTime, Cap: api.MaxTime, Services: services})
	for i := range 8 {
		b.ended(i+1, none, i, start(i+1, api.MaxTime))
	}
	b.wantIdle(8, api.MaxTime-1, api.ErrPlace)
	for i := range 12 {
		b.started(api.MaxTime, i%8+1)
		b.ended(i%8+1, none, api.MaxTime, start(i%8+1, api.MaxTime))
	}
	b.wantRestarts(20)
	b.started(api.MaxTime, 1)
	b.ended(1, none, api.MaxTime, start(1, api.MaxTime)) // the first one, at 0, does not count any more
}

// TestP221GiveUp checks what becomes of services in all states when a warden gives up.
func TestP221GiveUp(t *testing.T) {
	b := build(t, api.Spec{Rule: api.RRest, Most: 2, Within: 10, Services: spec(api.RRest, always(7)...).Services})
	b.ended(7, none, 0, start(7, 0))
	b.ended(5, none, 0, stop(6))
	b.wantStates(0, api.SRuns, api.SRuns, api.SRuns, api.SRuns, api.SOff, api.SStops, api.SOff)
	b.wantIdle(7, 0, api.ErrNone)
	b.ended(4, none, 1, giveUp(), stop(3), stop(2), stop(1))
	b.wantStates(0, api.SStops, api.SStops, api.SStops, api.SGone, api.SGone, api.SStops, api.SGone)
	b.wantOver(false, true)
	b.wantRestarts(3)
	b.ended(2, thrown, 2)
	b.ended(6, thrown, 2)
	b.ended(1, none, 2)
	b.wantOver(false, true)
	b.ended(3, cancelled, 3, done())
	b.wantOver(true, true)
	b.wantRestarts(3)
	b.wantStates(0, slices.Repeat([]int{api.SGone}, 7)...)
	b.wantRefused(3, none, 3, api.ErrNone)
	b.wantIdle(7, 3, api.ErrNone)
}

// TestP221Due checks that those that are due are gone if the warden gives up, and that it is over at once if no other one runs.
func TestP221Due(t *testing.T) {
	b := build(t, api.Spec{Rule: api.ROne, Most: 2, Within: 10, Base: 1, Cap: 1, Services: three()})
	b.ended(1, none, 0, start(1, 1))
	b.ended(2, none, 0, start(2, 1))
	b.ended(3, none, 0, giveUp(), done())
	b.wantStates(0, api.SGone, api.SGone, api.SGone)
	b.wantOver(true, true)
	b.wantIdle(1, 1, api.ErrNone)
}

// TestP221Most checks a warden that gives up at once.
func TestP221Most(t *testing.T) {
	for rule := api.ROne; rule <= api.RRest; rule++ {
		b := build(t, api.Spec{Rule: rule, Within: 1, Services: spec(rule, api.WFailed, api.WNever, api.WFailed).Services})
		b.ended(3, none, 0)
		b.ended(1, thrown, 0, giveUp(), stop(2))
		b.ended(2, none, 0, done())
		b.wantRestarts(1)
		b = build(t, api.Spec{Rule: rule, Within: 1, Services: spec(rule, api.WFailed).Services})
		b.ended(1, thrown, 0, giveUp(), done())
	}
}

// TestP221Done checks that a warden is over without having given up.
func TestP221Done(t *testing.T) {
	b := build(t, spec(api.RAll, api.WFailed, api.WNever))
	b.ended(1, thrown, 0, stop(2))
	b.ended(2, cancelled, 0, start(1, 0), start(2, 0))
	b.started(0, 1)
	b.ended(1, none, 0)
	b.wantOver(false, false)
	b.wantStates(0, api.SGone, api.SDue)
	b.started(0, 2)
	b.ended(2, thrown, 0, done())
	b.wantOver(true, false)
}

func TestP221Nil(t *testing.T) {
	var w *Warden
	if list, err := w.Ended(1, none, 0); list != nil || err != api.ErrArg {
		t.Error("Ended of nil", list, err)
	}
	if err := w.Started(1, 0); err != api.ErrArg {
		t.Error("Started of nil", err)
	}
	if state, at := w.State(1); state != 0 || at != 0 || w.Restarts() != 0 || w.Times() != nil || w.Delay() != 0 || w.Copy() != nil {
		t.Error("nil has a state")
	}
	if gone, quit := w.Over(); gone || quit {
		t.Error("Over of nil", gone, quit)
	}
	w = &Warden{}
	if list, err := w.Ended(1, none, 0); list != nil || err != api.ErrNone || w.Started(1, 0) != api.ErrNone {
		t.Error("a warden without services", list, err)
	}
}

// TestP221Times checks that the times of restarts are kept, also those that are too old to count, and that nobody else gets their memory.
func TestP221Times(t *testing.T) {
	b := build(t, api.Spec{Rule: api.RAll, Most: 1, Within: 2, Base: 3, Cap: 9, Services: three()})
	want := func(delay int, times ...int) {
		t.Helper()
		if list := b.Times(); !slices.Equal(list, times) || b.Delay() != delay {
			t.Errorf("Times() = %v, Delay() = %d, want %v, %d", list, b.Delay(), times, delay)
		}
	}
	want(0)
	b.ended(2, none, 1, stop(3), stop(1))
	want(3, 1)
	b.ended(1, none, 2)
	b.ended(3, none, 2, start(1, 5), start(2, 5), start(3, 5))
	want(0, 1)
	b.started(5, 1, 2, 3)
	b.ended(1, none, 6, stop(3), stop(2))
	want(3, 1, 6)
	b.Times()[0] = 9
	c := b.copy()
	b.ended(2, none, 6)
	b.ended(3, none, 6, start(1, 9), start(2, 9), start(3, 9))
	b.started(9, 1, 2)
	b.ended(2, none, 9, stop(1))
	want(3, 1, 6, 9)
	b.ended(1, none, 9, start(1, 12), start(2, 12), start(3, 12))
	b.started(12, 1, 2, 3)
	b.ended(1, none, 12, stop(3), stop(2))
	want(3, 1, 6, 9, 12)
	b = c
	want(3, 1, 6)
}

func TestP221Copies(t *testing.T) {
	b := build(t, api.Spec{Rule: api.RAll, Most: 2, Within: 10, Base: 1, Cap: 9, Services: three()})
	b.ended(2, none, 1, stop(3), stop(1))
	before := b.all()
	c := b.copy()
	c.wantSame("Copy", before)
	c.ended(1, none, 2)
	c.ended(3, none, 3, start(1, 4), start(2, 4), start(3, 4))
	c.started(4, 1, 2, 3)
	c.ended(3, none, 4, stop(2), stop(1))
	b.wantSame("a call of a copy", before)
	d := c.copy()
	d.ended(2, none, 5)
	d.ended(1, none, 5, start(1, 7), start(2, 7), start(3, 7))
	c.ended(2, none, 6)
	c.ended(1, none, 6, start(1, 8), start(2, 8), start(3, 8))
	d.started(7, 1)
	d.ended(1, none, 7, giveUp(), done())
	c.wantStates(8, api.SDue, api.SDue, api.SDue)
	c.wantOver(false, false)
	b.ended(1, none, 1)
	b.ended(3, none, 1, start(1, 2), start(2, 2), start(3, 2))
}

// TestP221Counts checks that restarts that are too old for a copy still count for the warden.
func TestP221Counts(t *testing.T) {
	b := build(t, api.Spec{Rule: api.ROne, Most: 9, Within: 10, Base: 1, Cap: 99, Services: spec(api.ROne, always(6)...).Services})
	b.ended(1, none, 5, start(1, 6))
	b.ended(2, none, 6, start(2, 8))
	b.ended(3, none, 7, start(3, 11))
	c := b.copy()
	c.ended(4, none, 17, start(4, 18))
	b.ended(4, none, 12, start(4, 20))
	c.ended(5, none, 17, start(5, 19))
	b.ended(5, none, 12, start(5, 28))
}

// TestP221Memory checks that a warden keeps nothing of what it gets, and that its results are new.
func TestP221Memory(t *testing.T) {
	s := sound()
	s.Services = append(s.Services, api.Service{When: api.WAlways}, api.Service{When: api.WAlways})
	whole := sound()
	whole.Services = append(whole.Services, api.Service{When: api.WAlways}, api.Service{When: api.WAlways})
	b := build(t, s)
	if !reflect.DeepEqual(s, whole) {
		t.Errorf("New has changed %+v to %+v", whole, s)
	}
	for i := range s.Services {
		s.Services[i] = api.Service{Fn: -1, When: api.WNever}
	}
	list, _ := b.Ended(1, thrown, 0)
	before := b.all()
	for i := range list {
		list[i] = api.Order{Kind: 9}
	}
	_ = append(list, api.Order{Kind: 9})
	b.wantSame("what changed a result", before)
	b.ended(3, none, 0)
	b.ended(2, none, 0, start(1, 5), start(2, 5), start(3, 5))
}
