package supervise

import (
	"math/rand/v2"
	"slices"
	"testing"

	"seedbed/api"
)

// plain is a warden that keeps all that has happened, and finds out what follows of it in the words of the chapter.
type plain struct {
	spec     api.Spec
	states   []int
	dues     []int
	restarts []int // the times of all
	now      int
	since    int // the number of the restarts before the group began the last time
	quit     bool
}

func newPlain(s api.Spec) *plain {
	n := len(s.Services)
	return &plain{spec: s, states: slices.Repeat([]int{api.SRuns}, n), dues: make([]int, n)}
}

func (p *plain) copy() *plain {
	q := *p
	q.states, q.dues, q.restarts = slices.Clone(p.states), slices.Clone(p.dues), slices.Clone(p.restarts)
	return &q
}

func (p *plain) has(n int, states ...int) bool {
	return n >= 1 && n <= len(p.states) && slices.Contains(states, p.states[n-1])
}

// recent counts the first restarts that are not too old at a time.
func (p *plain) recent(first, now int) int {
	n := 0
	for _, at := range p.restarts[:first] {
		if at > now-p.spec.Within {
			n++
		}
	}
	return n
}

// delay is the greatest one of those of all restarts since the group began the last time, but for the one with which it gave up.
func (p *plain) delay() int {
	greatest, last := 0, len(p.restarts)
	if p.quit {
		last--
	}
	for i := p.since; i < last; i++ {
		d := p.spec.Base
		for range p.recent(i, p.restarts[i]) {
			d *= 2
		}
		greatest = max(greatest, min(d, p.spec.Cap))
	}
	return greatest
}

func validFault(f api.Fault) bool { return f == none || f == cancelled || f == thrown }

func (p *plain) started(n, now int) api.Errno {
	switch {
	case now < p.now || now > api.MaxTime:
		return api.ErrArg
	case !p.has(n, api.SDue):
		return api.ErrNone
	case now < p.dues[n-1]:
		return api.ErrPlace
	}
	p.now, p.states[n-1], p.dues[n-1] = now, api.SRuns, 0
	return api.OK
}

func (p *plain) ended(n int, f api.Fault, now int) ([]api.Order, api.Errno) {
	switch {
	case now < p.now || now > api.MaxTime || !validFault(f):
		return nil, api.ErrArg
	case !p.has(n, api.SRuns, api.SStops):
		return nil, api.ErrNone
	}
	p.now = now
	list := p.follow(n-1, f)
	for i, state := range p.states {
		if state != api.SDue {
			p.dues[i] = 0
		}
	}
	if !slices.ContainsFunc(p.states, func(state int) bool { return state != api.SGone }) {
		list = append(list, api.Order{Kind: api.ODone})
	}
	return list, api.OK
}

func (p *plain) follow(i int, f api.Fault) []api.Order {
	when := p.spec.Services[i].When
	switch {
	case p.quit:
		p.states[i] = api.SGone
		return nil
	case p.states[i] == api.SStops:
		p.states[i] = api.SOff
		return p.begin()
	case when == api.WNever, when == api.WFailed && f.Kind != api.FThrow:
		p.states[i] = api.SGone
		return nil
	}
	p.restarts = append(p.restarts, p.now)
	if p.recent(len(p.restarts), p.now) > p.spec.Most {
		return p.giveUp(i)
	}
	p.states[i] = api.SOff
	var list []api.Order
	for j := len(p.states) - 1; j >= 0; j-- {
		if j == i || p.spec.Rule == api.ROne || p.spec.Rule == api.RRest && j < i {
			continue
		}
		if p.states[j] == api.SRuns {
			p.states[j] = api.SStops
			list = append(list, api.Order{Kind: api.OStop, N: j + 1})
		} else if p.states[j] == api.SDue {
			p.states[j] = api.SOff
		}
	}
	return append(list, p.begin()...)
}

func (p *plain) giveUp(i int) []api.Order {
	p.quit = true
	list := []api.Order{{Kind: api.OGiveUp}}
	for j := len(p.states) - 1; j >= 0; j-- {
		if j == i || p.states[j] == api.SOff || p.states[j] == api.SDue {
			p.states[j] = api.SGone
		} else if p.states[j] == api.SRuns {
			p.states[j] = api.SStops
			list = append(list, api.Order{Kind: api.OStop, N: j + 1})
		}
	}
	return list
}

func (p *plain) begin() []api.Order {
	if slices.Contains(p.states, api.SStops) {
		return nil
	}
	at := min(p.now+p.delay(), api.MaxTime)
	p.since = len(p.restarts)
	var list []api.Order
	for j, state := range p.states {
		if state == api.SOff {
			p.states[j], p.dues[j] = api.SDue, at
			list = append(list, api.Order{Kind: api.OStart, N: j + 1, At: at})
		}
	}
	return list
}

// walk is a warden that is told what happens at random, and a plain one.
type walk struct {
	builder
	p    *plain
	r    *rand.Rand
	far  int // how far time goes on at most
	seen []api.Order
}

func newWalk(t *testing.T, r *rand.Rand) *walk {
	s := api.Spec{Rule: 1 + r.IntN(3), Most: r.IntN(7), Within: 1 + r.IntN(30), Cap: r.IntN(40)}
	s.Base = r.IntN(s.Cap + 1)
	if r.IntN(4) == 0 {
		s.Most = api.MaxMost
	}
	for range 1 + r.IntN(api.MaxServ) {
		s.Services = append(s.Services, api.Service{When: []int{1, 1, 1, 2, 2, 3}[r.IntN(6)]})
	}
	return &walk{builder: build(t, s), p: newPlain(s), r: r, far: 1 + r.IntN(12)}
}

func (w *walk) fault() api.Fault {
	faults := []api.Fault{none, thrown, thrown, thrown, cancelled, {Kind: 3}}
	if w.r.IntN(20) > 0 {
		faults = faults[:5]
	}
	return faults[w.r.IntN(len(faults))]
}

func (w *walk) step() {
	n := 1 + w.r.IntN(len(w.p.states))
	now := w.p.now + max(0, w.r.IntN(2*w.far)-w.far)
	if w.r.IntN(30) == 0 {
		n += w.r.IntN(3) - 1
		now -= w.r.IntN(2)
	}
	if w.r.IntN(3) == 0 || w.p.has(n, api.SDue) {
		if w.p.has(n, api.SDue) && w.r.IntN(3) > 0 {
			now = max(w.p.now, w.p.dues[n-1]) + w.r.IntN(3)
		}
		if got, want := w.Started(n, now), w.p.started(n, now); got != want {
			w.t.Fatalf("Started(%d, %d) = %d, want %d", n, now, got, want)
		}
		return
	}
	f := w.fault()
	before := *w.p.copy()
	got, err := w.Ended(n, f, now)
	want, wantErr := w.p.ended(n, f, now)
	if len(got)+len(want) > 0 && !slices.Equal(got, want) || err != wantErr {
		w.t.Fatalf("Ended(%d, %v, %d) = %v, %d, want %v, %d", n, f, now, got, err, want, wantErr)
	}
	w.inOrder(got)
	w.noStartWhileQuit(before.quit, got)
	w.seen = append(w.seen, got...)
}

func (w *walk) compare() {
	w.t.Helper()
	for n := -1; n <= len(w.p.states)+2; n++ {
		state, at := w.State(n)
		wantState, wantAt := 0, 0
		if n >= 1 && n <= len(w.p.states) {
			wantState, wantAt = w.p.states[n-1], w.p.dues[n-1]
		}
		if state != wantState || at != wantAt {
			w.t.Fatalf("State(%d) = %d, %d, want %d, %d", n, state, at, wantState, wantAt)
		}
	}
	w.wantRestarts(len(w.p.restarts))
	if list, delay := w.Times(), w.Delay(); !slices.Equal(list, w.p.restarts) || delay != w.p.delay() {
		w.t.Fatalf("Times() = %v, Delay() = %d, want %v, %d", list, delay, w.p.restarts, w.p.delay())
	}
	w.wantOver(!slices.ContainsFunc(w.p.states, func(s int) bool { return s != api.SGone }), w.p.quit)
}

// bounded is P22.2.
func (w *walk) bounded() {
	w.t.Helper()
	if _, quit := w.Over(); quit {
		return
	}
	for _, t := range w.p.restarts {
		n := 0
		for _, at := range w.p.restarts {
			if at > t-w.p.spec.Within && at <= t {
				n++
			}
		}
		if n > w.p.spec.Most {
			w.t.Errorf("P22.2: %d restarts within %d until %d", n, w.p.spec.Within, t)
		}
	}
}

// inOrder is P22.3.
func (w *walk) inOrder(list []api.Order) {
	w.t.Helper()
	lastStop, lastStart := api.MaxServ+1, 0
	for _, o := range list {
		switch o.Kind {
		case api.OStop:
			if o.N >= lastStop {
				w.t.Errorf("P22.3: the stops of %v", list)
			}
			lastStop = o.N
		case api.OStart:
			if o.N <= lastStart {
				w.t.Errorf("P22.3: the starts of %v", list)
			}
			lastStart = o.N
			w.nothingStops()
		}
	}
}

func (w *walk) nothingStops() {
	w.t.Helper()
	for n := range api.MaxServ + 1 {
		if state, _ := w.State(n); state == api.SStops {
			w.t.Errorf("P22.3: a start while %d stops", n)
		}
	}
}

// noStartWhileQuit is the first part of P22.4.
func (w *walk) noStartWhileQuit(quit bool, list []api.Order) {
	w.t.Helper()
	if quit && slices.ContainsFunc(list, func(o api.Order) bool { return o.Kind != api.ODone }) {
		w.t.Errorf("P22.4: %v after it has given up", list)
	}
}

// finish ends all that run until it has given up, and checks the second part of P22.4.
func (w *walk) finish() {
	w.t.Helper()
	for n := range len(w.p.states) {
		if _, quit := w.Over(); quit && w.p.has(n+1, api.SRuns, api.SStops) {
			w.Ended(n+1, thrown, w.p.now)
		}
	}
	if gone, quit := w.Over(); quit && !gone {
		w.t.Error("P22.4: all have ended, but it is not over")
	}
}

// walks walks with many wardens, also with copies that go on in their place.
func walks(t *testing.T, salt uint64, count, steps int, after func(w *walk)) {
	for seed := range uint64(count) {
		r := rand.New(rand.NewPCG(seed, salt))
		w := newWalk(t, r)
		for range steps {
			if r.IntN(10) == 0 {
				w.Warden = w.Copy()
			}
			w.step()
			after(w)
			if t.Failed() {
				t.Fatalf("seed %d", seed)
			}
		}
		if done := slices.Index(w.seen, api.Order{Kind: api.ODone}); done >= 0 && done < len(w.seen)-1 {
			t.Errorf("seed %d: orders after ODone", seed)
		}
		w.finish()
	}
}

func TestP221Walks(t *testing.T) { walks(t, 221, 3000, 60, (*walk).compare) }

func TestP222Bounded(t *testing.T) { walks(t, 222, 500, 100, (*walk).bounded) }

func TestP223Order(t *testing.T) { walks(t, 223, 500, 100, func(*walk) {}) }

func TestP224Over(t *testing.T) {
	quits := 0
	walks(t, 224, 500, 100, func(w *walk) {
		if _, quit := w.Over(); quit {
			quits++
		}
	})
	if quits < 1000 {
		t.Errorf("wardens that have given up were seen %d times only", quits)
	}
}
