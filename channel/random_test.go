package channel

import (
	"math/rand/v2"
	"slices"
	"testing"

	"seedbed/api"
)

// plain is a channel of lists, which does what the chapter says in its words.
type plain struct{ s api.ChanState }

// pull removes the first waiter that sends, or does not.
func (p *plain) pull(send bool) (api.Waiter, bool) {
	at := slices.IndexFunc(p.s.Waiters, func(w api.Waiter) bool { return w.Send == send })
	if at < 0 {
		return api.Waiter{}, false
	}
	w := p.s.Waiters[at]
	p.s.Waiters = slices.Delete(slices.Clone(p.s.Waiters), at, at+1)
	return w, true
}

func (p *plain) offer(v api.Value) result {
	if p.s.Closed {
		return result{fault: throwClosed(), done: true}
	}
	if w, ok := p.pull(false); ok {
		return result{deals: []api.Deal{{Who: w.Ticket, V: v}}, done: true}
	}
	buffer := append(slices.Clone(p.s.Buffer), v)
	if len(buffer) > p.s.Cap {
		switch p.s.Policy {
		case api.PWait:
			return result{}
		case api.POldest:
			buffer = buffer[1:]
		case api.PNewest:
			buffer = buffer[:p.s.Cap]
		}
		p.s.Dropped++
	}
	p.s.Buffer = buffer
	return result{done: true}
}

func (p *plain) take() result {
	if len(p.s.Buffer) == 0 {
		if w, ok := p.pull(true); ok {
			return result{v: w.V, deals: []api.Deal{{Who: w.Ticket}}, done: true}
		}
		if p.s.Closed {
			return result{fault: throwClosed(), done: true}
		}
		return result{}
	}
	r := result{v: p.s.Buffer[0], done: true}
	p.s.Buffer = slices.Clone(p.s.Buffer[1:])
	if w, ok := p.pull(true); ok {
		p.s.Buffer = append(p.s.Buffer, w.V)
		r.deals = []api.Deal{{Who: w.Ticket}}
	}
	return r
}

func (p *plain) park(ticket int, send bool, v api.Value) {
	p.s.Waiters = append(slices.Clone(p.s.Waiters), api.Waiter{Ticket: ticket, Send: send, V: v})
}

func (p *plain) close() []api.Deal {
	if p.s.Closed {
		return nil
	}
	var deals []api.Deal
	for _, w := range p.s.Waiters {
		deals = append(deals, api.Deal{Who: w.Ticket, Fault: throwClosed()})
	}
	p.s.Closed, p.s.Waiters = true, nil
	return deals
}

// pair is a channel, the plain one that should do the same, and how often something was done to them, which is what is sent and parked next.
type pair struct {
	c    *Chan
	p    plain
	acts int
}

const actKinds = 7

// act does something to copies of both, and checks that they do the same.
func (x pair) act(t *testing.T, kind int) pair {
	t.Helper()
	before := x.p.s
	x.c = x.c.Copy()
	x.acts++
	v := num(x.acts)
	same := true
	switch kind {
	case 0:
		same = offer(x.c, v).same(x.p.offer(v))
	case 1:
		same = take(x.c).same(x.p.take())
	case 2, 3:
		if kind == 3 {
			v = api.Value{}
		}
		x.p.park(x.acts, kind == 2, v)
		same = x.c.Park(x.acts, kind == 2, v) == api.OK
	case 4, 5:
		w, ok := x.p.pull(kind == 4)
		same = x.c.Withdraw(w.Ticket) == ok
	case 6:
		same = sameList(x.c.Close(), x.p.close())
	}
	if !same || !sameState(x.c.State(), x.p.s) {
		t.Fatalf("%d, %d to %+v: %t, %+v, want %+v", kind, x.acts, before, same, x.c.State(), x.p.s)
	}
	return x
}

// explore does all things after each other, and checks that none of them changes what it begins with.
func explore(t *testing.T, x pair, left int) {
	t.Helper()
	if left == 0 {
		return
	}
	for kind := range actKinds {
		explore(t, x.act(t, kind), left-1)
	}
	if !sameState(x.c.State(), x.p.s) {
		t.Fatalf("%+v, want %+v", x.c.State(), x.p.s)
	}
}

// TestP161All holds channels against plain ones, in all short orders.
func TestP161All(t *testing.T) {
	t.Parallel()
	for capacity := range 3 {
		for policy := range 3 {
			explore(t, pair{c: newChan(t, capacity, policy), p: plain{api.ChanState{Cap: capacity, Policy: policy}}}, 5)
		}
	}
}

// TestP161Random holds channels against plain ones, in long orders.
func TestP161Random(t *testing.T) {
	t.Parallel()
	for seed := range uint64(600) {
		r := rand.New(rand.NewPCG(seed, 16))
		capacity, policy := r.IntN(api.MaxCap+1), r.IntN(3)
		x := pair{c: newChan(t, capacity, policy), p: plain{api.ChanState{Cap: capacity, Policy: policy}}}
		odds := []int{r.IntN(30), r.IntN(30), r.IntN(10), r.IntN(10), r.IntN(5), r.IntN(5), r.IntN(2)}
		for range 150 {
			kind := r.IntN(actKinds)
			if r.IntN(30) <= odds[kind] {
				x = x.act(t, kind)
			}
		}
	}
}

// market is a channel with those who use it: what they sent has ascending numbers.
type market struct {
	c        *Chan
	r        *rand.Rand
	sent     int
	parked   map[int]int // what senders wait with, by their tickets
	in, out  []int       // what was accepted or taken from senders, and what was received, in order
	begun    []int       // what was accepted, or parked
	closed   bool
	careless bool // some park without having asked
}

func (m *market) send(t *testing.T, park bool) {
	m.sent++
	n := m.sent
	if !park || !m.careless || m.r.IntN(2) == 0 {
		r := offer(m.c, num(n))
		if r.done {
			m.accept(t, n, r)
			return
		}
	}
	if park && m.c.Park(n, true, num(n)) == api.OK {
		m.parked[n] = n
		m.begun = append(m.begun, n)
	}
}

// accept notes what was done with an offer.
func (m *market) accept(t *testing.T, n int, r result) {
	if (r.fault != api.Fault{}) != m.closed {
		t.Fatalf("Offer of a channel that is closed (%t): %v", m.closed, r)
	}
	if m.closed {
		return
	}
	m.in = append(m.in, n)
	m.begun = append(m.begun, n)
	for _, d := range r.deals {
		m.out = append(m.out, d.V.N)
	}
}

func (m *market) receive(t *testing.T, park bool) {
	m.sent++
	if !park || !m.careless || m.r.IntN(2) == 0 {
		r := take(m.c)
		for _, d := range r.deals {
			n, ok := m.parked[d.Who]
			if !ok {
				t.Fatalf("Take: the deal %v of nobody", d)
			}
			delete(m.parked, d.Who)
			m.in = append(m.in, n)
		}
		if r.done && r.fault.Kind == api.FNone {
			m.out = append(m.out, r.v.N)
		}
		if r.done {
			return
		}
	}
	if park {
		m.c.Park(m.sent, false, api.Value{})
	}
}

// withdraw withdraws one of those that wait.
func (m *market) withdraw() {
	list := m.c.State().Waiters
	if len(list) > 0 {
		w := list[m.r.IntN(len(list))]
		m.c.Withdraw(w.Ticket)
		delete(m.parked, w.Ticket)
	}
}

func (m *market) close() {
	m.closed = true
	for _, d := range m.c.Close() {
		delete(m.parked, d.Who)
	}
}

// markets lets channels be used, and visits them after each use.
func markets(t *testing.T, seeds uint64, withdraws, careless bool, visit func(m *market)) {
	t.Helper()
	for seed := range seeds {
		r := rand.New(rand.NewPCG(seed, 160))
		capacity := r.IntN(5)
		if r.IntN(6) == 0 {
			capacity = api.MaxCap
		}
		m := &market{c: newChan(t, capacity, r.IntN(3)), r: r, parked: map[int]int{}, careless: careless}
		bias := 1 + r.IntN(9)
		for range 120 {
			switch {
			case r.IntN(80) == 0 && seed%2 == 0:
				m.close()
			case r.IntN(12) == 0 && withdraws:
				m.withdraw()
			case r.IntN(10) < bias:
				m.send(t, r.IntN(3) > 0)
			default:
				m.receive(t, r.IntN(3) > 0)
			}
			visit(m)
		}
	}
}

// TestP162Order checks that what is sent first is received first.
func TestP162Order(t *testing.T) {
	t.Parallel()
	received := 0
	markets(t, 600, false, false, func(m *market) {
		if m.c.State().Dropped > 0 {
			return
		}
		received = max(received, len(m.out))
		if !slices.IsSorted(m.begun) || len(m.out) > len(m.begun) || !slices.Equal(m.out, m.begun[:len(m.out)]) && !m.closed || !slices.IsSorted(m.out) {
			t.Fatalf("%v were received, %v were sent; %+v", m.out, m.begun, m.c.State())
		}
	})
	if received < 30 {
		t.Errorf("at most %d values are received", received)
	}
}

// TestP163Balance checks that no value is lost or doubled.
func TestP163Balance(t *testing.T) {
	t.Parallel()
	dropped := 0
	check := func(m *market) {
		left := map[int]bool{}
		for _, n := range m.in {
			left[n] = true
		}
		s := m.c.State()
		for _, v := range s.Buffer {
			m.out = append(m.out, v.N)
		}
		for _, n := range m.out {
			if !left[n] {
				t.Fatalf("%d is received or in the buffer, but %v were sent, and %v received; %+v", n, m.in, m.out, s)
			}
			delete(left, n)
		}
		m.out = m.out[:len(m.out)-len(s.Buffer)]
		if len(left) != s.Dropped {
			t.Fatalf("%v are lost of %v, but %d were dropped; %+v", left, m.in, s.Dropped, s)
		}
		dropped += s.Dropped
	}
	markets(t, 300, true, false, check)
	markets(t, 300, true, true, check)
	if dropped < 100 {
		t.Errorf("only %d values are dropped", dropped)
	}
}

// TestP164Room checks that there are never more values than room.
func TestP164Room(t *testing.T) {
	t.Parallel()
	full := 0
	for _, careless := range []bool{false, true} {
		markets(t, 300, true, careless, func(m *market) {
			s := m.c.State()
			if len(s.Buffer) > s.Cap || s.Cap != m.c.capacity {
				t.Fatalf("%+v", s)
			}
			if s.Cap > 0 && len(s.Buffer) == s.Cap {
				full++
			}
		})
	}
	if full < 1000 {
		t.Errorf("only %d are full", full)
	}
}

// TestP165Waking checks that nobody waits who could go on.
func TestP165Waking(t *testing.T) {
	t.Parallel()
	waits := map[bool]int{}
	markets(t, 600, true, false, func(m *market) {
		for _, w := range m.c.State().Waiters {
			waits[w.Send]++
			if w.Send && offer(m.c.Copy(), num(1)).done || !w.Send && take(m.c.Copy()).done {
				t.Fatalf("%v waits, but could go on: %+v", w, m.c.State())
			}
		}
	})
	if waits[true] < 1000 || waits[false] < 1000 {
		t.Errorf("only %v wait", waits)
	}
}
