package choose

import (
	"cmp"
	"math/rand/v2"
	"slices"
	"testing"

	"seedbed/api"
)

// stand is an arm that stands, at a time if it is one that waits for time.
type stand struct {
	party, index, at int
	arm              api.Arm
}

func (s stand) isIn(c, op int) bool { return s.arm.Op == op && s.arm.V.N == c }

func (s stand) deal() api.Deal { return api.Deal{Who: s.party, Index: s.index} }

// plain is a board with one list of all arms that stand, which does what the chapters say in their words.
type plain struct {
	now     int
	chans   []api.ChanState // without their waiters
	stands  []stand         // in the order in which they were made to stand
	waiting []int
}

func (p *plain) find(c, op int) (stand, bool) {
	at := slices.IndexFunc(p.stands, func(s stand) bool { return s.isIn(c, op) })
	if at < 0 {
		return stand{}, false
	}
	return p.stands[at], true
}

func (p *plain) remove(party int) bool {
	at := slices.Index(p.waiting, party)
	if at < 0 {
		return false
	}
	p.waiting = slices.Delete(p.waiting, at, at+1)
	p.stands = slices.DeleteFunc(p.stands, func(s stand) bool { return s.party == party })
	return true
}

// receive returns the deal of the one who receives, and that of another one.
func (p *plain) receive(c int) ([]api.Deal, bool) {
	ch := &p.chans[c-1]
	s, waits := p.find(c, api.CSend)
	var own api.Deal
	switch {
	case len(ch.Buffer) > 0:
		own.V = ch.Buffer[0]
		ch.Buffer = ch.Buffer[1:]
		if waits {
			ch.Buffer = append(slices.Clone(ch.Buffer), s.arm.W)
		}
	case waits:
		own.V = s.arm.W
	case ch.Closed:
		own.Fault = closedFault()
	default:
		return nil, false
	}
	if waits {
		p.remove(s.party)
		return []api.Deal{own, s.deal()}, true
	}
	return []api.Deal{own}, true
}

func (p *plain) send(c int, v api.Value) ([]api.Deal, bool) {
	ch := &p.chans[c-1]
	if ch.Closed {
		return []api.Deal{{Fault: closedFault()}}, true
	}
	if s, waits := p.find(c, api.CReceive); waits {
		p.remove(s.party)
		other := s.deal()
		other.V = v
		return []api.Deal{{}, other}, true
	}
	buffer := append(slices.Clone(ch.Buffer), v)
	if len(buffer) > ch.Cap {
		switch ch.Policy {
		case api.PWait:
			return nil, false
		case api.POldest:
			buffer = buffer[1:]
		case api.PNewest:
			buffer = buffer[:ch.Cap]
		}
		ch.Dropped++
	}
	ch.Buffer = buffer
	return []api.Deal{{}}, true
}

func (p *plain) attempt(a api.Arm) ([]api.Deal, bool) {
	switch a.Op {
	case api.CReceive:
		return p.receive(a.V.N)
	case api.CSend:
		return p.send(a.V.N, a.W)
	}
	return []api.Deal{{}}, a.N <= 0
}

func (p *plain) choose(party int, arms []api.Arm, or bool) ([]api.Deal, api.Errno) {
	for _, a := range arms {
		if a.Op != api.CAfter && a.V.N > len(p.chans) {
			return nil, api.ErrNone
		}
	}
	if slices.Contains(p.waiting, party) {
		return nil, api.ErrTwice
	}
	for i, a := range arms {
		if deals, done := p.attempt(a); done {
			deals[0].Who, deals[0].Index = party, i
			return deals, api.OK
		}
	}
	if or {
		return []api.Deal{{Who: party, Index: len(arms)}}, api.OK
	}
	before := p.stands
	for i, a := range arms {
		p.stands = append(slices.Clone(p.stands), stand{party, i, p.now + a.N, a})
	}
	if p.isTooMuch() {
		p.stands = before
		return nil, api.ErrFull
	}
	p.waiting = append(slices.Clone(p.waiting), party)
	slices.Sort(p.waiting)
	return nil, api.OK
}

func (p *plain) isTooMuch() bool {
	count := map[int]int{}
	for _, s := range p.stands {
		if s.arm.Op == api.CAfter {
			count[0]++
		} else {
			count[s.arm.V.N]++
		}
	}
	for c, n := range count {
		if c == 0 && n > api.MaxTimers || c > 0 && n > api.MaxWaits {
			return true
		}
	}
	return slices.ContainsFunc(p.stands, func(s stand) bool { return s.arm.Op == api.CAfter && s.at > api.MaxTime })
}

// settle deals with those that stand, each party but once.
func (p *plain) settle(list []stand, fault api.Fault) []api.Deal {
	var deals []api.Deal
	for _, s := range list {
		if p.remove(s.party) {
			d := s.deal()
			d.Fault = fault
			deals = append(deals, d)
		}
	}
	return deals
}

func (p *plain) close(c int) []api.Deal {
	p.chans[c-1].Closed = true
	var list []stand
	for _, s := range p.stands {
		if s.isIn(c, api.CReceive) || s.isIn(c, api.CSend) {
			list = append(list, s)
		}
	}
	return p.settle(list, closedFault())
}

func (p *plain) timers() []stand {
	var list []stand
	for _, s := range p.stands {
		if s.arm.Op == api.CAfter {
			list = append(list, s)
		}
	}
	slices.SortStableFunc(list, func(s, u stand) int { return cmp.Compare(s.at, u.at) })
	return list
}

func (p *plain) advance(to int) []api.Deal {
	p.now = to
	list := p.timers()
	at := slices.IndexFunc(list, func(s stand) bool { return s.at > to })
	if at >= 0 {
		list = list[:at]
	}
	return p.settle(list, api.Fault{})
}

// state is that of a channel with its waiters.
func (p *plain) state(c int) api.ChanState {
	s := p.chans[c-1]
	for _, x := range p.stands {
		if x.isIn(c, api.CReceive) || x.isIn(c, api.CSend) {
			s.Waiters = append(s.Waiters, api.Waiter{Ticket: x.party*api.MaxCases + x.index, Send: x.arm.Op == api.CSend, V: x.arm.W})
		}
	}
	return s
}

// wantTimers checks what Timers visits, also if the loop is left.
func wantTimers(t *testing.T, b *Board, want []stand) {
	t.Helper()
	for most := range len(want) + 1 {
		n := 0
		for at, d := range b.Timers() {
			if n == len(want) || at != want[n].at || d != want[n].deal() {
				t.Fatalf("the timer %d fires at %d with %v, want %v", n, at, d, want)
			}
			n++
			if n == most {
				break
			}
		}
		if n < most {
			t.Fatalf("%d timers, want %v", n, want)
		}
	}
}

// wantSame checks that a board has the state of a plain one.
func wantSame(t *testing.T, b *Board, p *plain) {
	t.Helper()
	list := p.timers()
	at, ok := 0, len(list) > 0
	if ok {
		at = list[0].at
	}
	wantNext(t, b, at, ok)
	wantTimers(t, b, list)
	wantWaiting(t, b, p.waiting...)
	if b.Now() != p.now || len(b.chans) != len(p.chans) {
		t.Errorf("at %d with %d channels, want %d with %d", b.Now(), len(b.chans), p.now, len(p.chans))
	}
	for c := range p.chans {
		if s, err := b.Chan(c + 1); !sameState(s, p.state(c+1)) || err != api.OK {
			t.Errorf("the channel %d is %+v, %d, want %+v", c+1, s, err, p.state(c+1))
		}
	}
	if t.Failed() {
		t.FailNow()
	}
}

// users are parties that use a board at random.
type users struct {
	b       *Board
	p       plain
	r       *rand.Rand
	parties int
	steps   int
	owed    map[int]bool // who waits, by the deals and errors so far
}

func (u *users) arm() api.Arm {
	c := 1 + u.r.IntN(len(u.p.chans)+u.r.IntN(40)/39)
	switch u.r.IntN(7) {
	case 0:
		if u.r.IntN(60) == 0 {
			return after(api.MaxTime - u.r.IntN(9))
		}
		return after(u.r.IntN(12) - u.r.IntN(30)/29*u.r.IntN(12) + 1)
	case 1, 2, 3:
		return send(u.steps, c)
	}
	return receive(c)
}

// choose lets a party choose.
func (u *users) choose(t *testing.T) {
	party := 1 + u.r.IntN(u.parties)
	arms := make([]api.Arm, u.r.IntN(api.MaxCases+1))
	for i := range arms {
		arms[i] = u.arm()
	}
	or := u.r.IntN(8) == 0
	deals, err := u.b.Choose(party, arms, or)
	want, wantErr := u.p.choose(party, arms, or)
	if !sameList(deals, want) || err != wantErr {
		t.Fatalf("Choose(%d, %v, %t) = %v, %d, want %v, %d", party, arms, or, deals, err, want, wantErr)
	}
	if err == api.OK {
		u.owed[party] = true
	}
	u.take(t, deals)
}

// take checks that each deal is owed to its party.
func (u *users) take(t *testing.T, deals []api.Deal) {
	for _, d := range deals {
		if !u.owed[d.Who] {
			t.Fatalf("the deal %v: the party does not wait", d)
		}
		delete(u.owed, d.Who)
	}
}

func (u *users) withdraw(t *testing.T) {
	party := 1 + u.r.IntN(u.parties)
	wantWithdraw(t, u.b, party, u.p.remove(party))
	delete(u.owed, party)
}

func (u *users) goOn(t *testing.T) {
	to := u.p.now + u.r.IntN(9)
	if to > api.MaxTime {
		return
	}
	deals, err := u.b.Advance(to)
	wantDeals(t, "Advance", deals, err, u.p.advance(to)...)
	u.take(t, deals)
}

func (u *users) close(t *testing.T) {
	c := 1 + u.r.IntN(len(u.p.chans))
	deals, err := u.b.Close(c)
	wantDeals(t, "Close", deals, err, u.p.close(c)...)
	u.take(t, deals)
}

func (u *users) make(t *testing.T) {
	s := api.ChanState{Cap: u.r.IntN(3), Policy: max(0, u.r.IntN(6)-3)}
	u.p.chans = append(u.p.chans, s)
	wantMake(t, u.b, s.Cap, s.Policy, len(u.p.chans), api.OK)
}

func (u *users) step(t *testing.T) {
	u.steps++
	switch n := u.r.IntN(100); {
	case n < 2 && len(u.p.chans) < api.MaxChans:
		u.make(t)
	case n < 3:
		u.close(t)
	case n < 8:
		u.withdraw(t)
	case n < 20:
		u.goOn(t)
	case n < 23:
		u.b = u.b.Copy()
	default:
		u.choose(t)
	}
}

// crowds lets boards be used, and visits them after each step.
func crowds(t *testing.T, seeds uint64, parties int, visit func(u *users)) {
	t.Helper()
	for seed := range seeds {
		u := &users{b: New(), r: rand.New(rand.NewPCG(seed, 17)), parties: parties, owed: map[int]bool{}}
		for range 1 + u.r.IntN(3) {
			u.make(t)
		}
		for range 250 {
			u.step(t)
			visit(u)
		}
	}
}

// TestP171Random holds boards against plain ones.
func TestP171Random(t *testing.T) {
	t.Parallel()
	crowds(t, 200, 6, func(u *users) { wantSame(t, u.b, &u.p) })
	crowds(t, 20, 40, func(u *users) { wantSame(t, u.b, &u.p) })
}

// TestP172One checks that who waits is who has been owed a deal since it chose, and has not got one.
func TestP172One(t *testing.T) {
	t.Parallel()
	crowds(t, 300, 9, func(u *users) {
		for _, party := range u.b.Waiting() {
			if !u.owed[party] {
				t.Fatalf("%d waits, but is owed nothing", party)
			}
		}
		if len(u.b.Waiting()) != len(u.owed) {
			t.Fatalf("%v wait, but %v are owed a deal", u.b.Waiting(), u.owed)
		}
	})
}

// TestP173Stand checks that all arms that stand are those of parties that wait.
func TestP173Stand(t *testing.T) {
	t.Parallel()
	standing := 0
	crowds(t, 300, 9, func(u *users) {
		armed := 0
		for timer := range u.b.clock.All() {
			armed++
			if ticket, ok := u.b.timers[timer.ID]; !ok || !slices.Contains(u.b.Waiting(), ticket/api.MaxCases) {
				t.Fatalf("the timer %v is that of the ticket %d, %t", timer, ticket, ok)
			}
		}
		if armed != len(u.b.timers) {
			t.Fatalf("%d timers are armed of %v", armed, u.b.timers)
		}
		for c := range u.p.chans {
			s, _ := u.b.Chan(c + 1)
			for _, w := range s.Waiters {
				standing++
				if !slices.Contains(u.b.Waiting(), w.Ticket/api.MaxCases) {
					t.Fatalf("%v stands in %d, but %v wait", w, c+1, u.b.Waiting())
				}
			}
		}
	})
	if standing < 1000 {
		t.Errorf("only %d stand", standing)
	}
}

// TestP173Empty checks that nothing stands once all are withdrawn.
func TestP173Empty(t *testing.T) {
	t.Parallel()
	crowds(t, 60, 9, func(u *users) {
		b := u.b.Copy()
		for _, party := range b.Waiting() {
			wantWithdraw(t, b, party, true)
		}
		wantNext(t, b, 0, false)
		for c := range u.p.chans {
			if s, _ := b.Chan(c + 1); len(s.Waiters) > 0 {
				t.Fatalf("%v stand in %d", s.Waiters, c+1)
			}
		}
	})
}

// TestP174Waking checks that nobody waits who could go on.
func TestP174Waking(t *testing.T) {
	t.Parallel()
	kinds := map[string]int{}
	crowds(t, 300, 9, func(u *users) {
		for c := range u.p.chans {
			s, _ := u.b.Chan(c + 1)
			if s.Closed && len(s.Waiters) > 0 {
				t.Fatalf("%v wait for the closed channel %d", s.Waiters, c+1)
			}
			wantApart(t, s, kinds)
		}
	})
	if kinds["send"] < 1000 || kinds["receive"] < 1000 || kinds["itself"] < 100 {
		t.Errorf("only %v", kinds)
	}
}

// wantApart checks that no two parties wait in a channel of which one sends and the other receives, and that nobody waits for a value that is there.
func wantApart(t *testing.T, s api.ChanState, kinds map[string]int) {
	t.Helper()
	senders, receivers := map[int]bool{}, map[int]bool{}
	for _, w := range s.Waiters {
		if w.Send {
			senders[w.Ticket/api.MaxCases] = true
		} else {
			receivers[w.Ticket/api.MaxCases] = true
		}
	}
	kinds["send"] += len(senders)
	kinds["receive"] += len(receivers)
	for sender := range senders {
		for receiver := range receivers {
			if sender != receiver {
				t.Fatalf("%d sends, %d receives: %+v", sender, receiver, s)
			}
			kinds["itself"]++
		}
	}
	if len(receivers) > 0 && len(s.Buffer) > 0 {
		t.Fatalf("%v wait for a value: %+v", receivers, s)
	}
}
