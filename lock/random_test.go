package lock

import (
	"math/rand/v2"
	"slices"
	"testing"

	"seedbed/api"
)

// asked is who waits for which lock.
type asked struct{ lock, party int }

// plain is a table that does what the chapter says in its words, with lists of who holds and who waits.
type plain struct {
	permits []int
	held    []asked // one for each permit
	waiting []asked
}

func (p *plain) isWaiting(party int) bool {
	return slices.ContainsFunc(p.waiting, func(a asked) bool { return a.party == party })
}

func of(list []asked, lock int) []int {
	var parties []int
	for _, a := range list {
		if a.lock == lock {
			parties = append(parties, a.party)
		}
	}
	return parties
}

func (p *plain) hold(lock, party int) (bool, api.Errno) {
	a := asked{lock, party}
	switch {
	case p.isWaiting(party):
		return false, api.ErrTwice
	case len(of(p.waiting, lock)) == 0 && len(of(p.held, lock)) < p.permits[lock-1]:
		p.held = append(p.held, a)
		return true, api.OK
	}
	p.waiting = append(p.waiting, a)
	return false, api.OK
}

func (p *plain) free(lock, party int) (int, api.Errno) {
	at := slices.Index(p.held, asked{lock, party})
	if at < 0 {
		return 0, api.ErrNone
	}
	p.held = slices.Delete(p.held, at, at+1)
	at = slices.IndexFunc(p.waiting, func(a asked) bool { return a.lock == lock })
	if at < 0 {
		return 0, api.OK
	}
	next := p.waiting[at]
	p.waiting = slices.Delete(p.waiting, at, at+1)
	p.held = append(p.held, next)
	return next.party, api.OK
}

func (p *plain) withdraw(party int) bool {
	before := len(p.waiting)
	p.waiting = slices.DeleteFunc(p.waiting, func(a asked) bool { return a.party == party })
	return len(p.waiting) < before
}

func (p *plain) copy() plain {
	return plain{slices.Clone(p.permits), slices.Clone(p.held), slices.Clone(p.waiting)}
}

// stuck frees one permit after the other in a random order, until there is none that could be freed.
func (p *plain) stuck(r *rand.Rand) []int {
	q := p.copy()
	for {
		var can []asked
		for _, a := range q.held {
			if !q.isWaiting(a.party) {
				can = append(can, a)
			}
		}
		if len(can) == 0 {
			break
		}
		a := can[r.IntN(len(can))]
		q.free(a.lock, a.party)
	}
	var parties []int
	for _, a := range q.waiting {
		parties = append(parties, a.party)
	}
	slices.Sort(parties)
	return parties
}

func (p *plain) state(lock int) api.LockState {
	held := of(p.held, lock)
	s := api.LockState{Permits: p.permits[lock-1], Free: p.permits[lock-1] - len(held), Waiting: of(p.waiting, lock)}
	slices.Sort(held)
	for _, party := range held {
		if last := len(s.Holders) - 1; last >= 0 && s.Holders[last].Party == party {
			s.Holders[last].N++
		} else {
			s.Holders = append(s.Holders, api.Holder{Party: party, N: 1})
		}
	}
	return s
}

// users are parties that use a table at random.
type users struct {
	table   *Table
	p       plain
	r       *rand.Rand
	parties int
}

func (u *users) make(t *testing.T) {
	n := 1 + u.r.IntN(1+u.r.IntN(api.MaxPermits))
	u.p.permits = append(u.p.permits, n)
	wantMake(t, u.table, n, len(u.p.permits), api.OK)
}

func (u *users) step(t *testing.T) {
	lock, party := 1+u.r.IntN(len(u.p.permits)), 1+u.r.IntN(u.parties)
	switch n := u.r.IntN(100); {
	case n < 1 && len(u.p.permits) < api.MaxLocks:
		u.make(t)
	case n < 5:
		wantWithdraw(t, u.table, party, u.p.withdraw(party))
	case n < 7:
		u.table = u.table.Copy()
	case n < 45:
		if len(u.p.held) > 0 && u.r.IntN(6) > 0 {
			a := u.p.held[u.r.IntN(len(u.p.held))]
			lock, party = a.lock, a.party
		}
		u.free(t, lock, party)
	default:
		u.hold(t, lock, party)
	}
}

func (u *users) hold(t *testing.T, lock, party int) {
	want, wantErr := u.p.hold(lock, party)
	if got, err := u.table.Hold(lock, party); got != want || err != wantErr {
		t.Fatalf("Hold(%d, %d) = %t, %d, want %t, %d", lock, party, got, err, want, wantErr)
	}
}

func (u *users) free(t *testing.T, lock, party int) {
	want, wantErr := u.p.free(lock, party)
	if got, err := u.table.Free(lock, party); got != want || err != wantErr {
		t.Fatalf("Free(%d, %d) = %d, %d, want %d, %d", lock, party, got, err, want, wantErr)
	}
}

// states are those of all locks of a table.
func states(t *testing.T, table *Table) []api.LockState {
	t.Helper()
	var list []api.LockState
	for n := range table.locks {
		s, err := table.State(n + 1)
		if err != api.OK {
			t.Fatalf("State(%d): %d", n+1, err)
		}
		list = append(list, s)
	}
	return list
}

// crowds lets tables be used, and visits them after each step.
func crowds(t *testing.T, seeds uint64, visit func(u *users)) {
	t.Helper()
	for seed := range seeds {
		u := &users{table: New(), r: rand.New(rand.NewPCG(seed, 18))}
		u.parties = 2 + u.r.IntN(12)
		for range 1 + u.r.IntN(5) {
			u.make(t)
		}
		for range 200 {
			u.step(t)
			visit(u)
		}
	}
}

// TestP181Random holds tables against plain ones.
func TestP181Random(t *testing.T) {
	t.Parallel()
	stuck := 0
	crowds(t, 300, func(u *users) {
		for n := range u.p.permits {
			wantState(t, u.table, n+1, u.p.state(n+1))
		}
		want := u.p.stuck(u.r)
		wantStuck(t, u.table, want...)
		if len(want) > 0 && len(want) < len(u.p.waiting) {
			stuck++
		}
		if t.Failed() {
			t.FailNow()
		}
	})
	if stuck < 300 {
		t.Errorf("only %d times some of those that wait are stuck", stuck)
	}
}

// TestP182Balance checks that permits are either free or held.
func TestP182Balance(t *testing.T) {
	t.Parallel()
	crowds(t, 200, func(u *users) {
		for n, s := range states(t, u.table) {
			sum := s.Free
			for _, h := range s.Holders {
				sum += h.N
				if h.N < 1 {
					t.Fatalf("%+v", s)
				}
			}
			if sum != s.Permits || s.Permits != u.p.permits[n] || s.Free < 0 {
				t.Fatalf("the lock %d of %d permits: %+v", n+1, u.p.permits[n], s)
			}
		}
	})
}

// TestP183Order checks that who asks earlier gets a permit earlier.
func TestP183Order(t *testing.T) {
	t.Parallel()
	passed := 0
	for seed := range uint64(300) {
		r := rand.New(rand.NewPCG(seed, 183))
		permits := 1 + r.IntN(4)
		table := newTable(t, permits)
		var asked, holding []int
		gone := map[int]bool{}
		got := 0
		take := func(party int) {
			for got < len(asked) && gone[asked[got]] {
				got++
			}
			if asked[got] != party {
				t.Fatalf("%d gets a permit before %d of %v, of which %v are withdrawn", party, asked[got], asked, gone)
			}
			got++
			holding = append(holding, party)
			passed++
		}
		for party := 1; party < 60; party++ {
			asked = append(asked, party)
			if ok, _ := table.Hold(1, party); ok {
				take(party)
			}
			for r.IntN(2) == 0 && len(holding) > 0 {
				at := r.IntN(len(holding))
				next, _ := table.Free(1, holding[at])
				holding = slices.Delete(holding, at, at+1)
				if next > 0 {
					take(next)
				}
			}
			if other := 1 + r.IntN(party); r.IntN(4) == 0 && table.Withdraw(other) {
				gone[other] = true
			}
		}
	}
	if passed < 3000 {
		t.Errorf("only %d got a permit", passed)
	}
}

// TestP184Waking checks that nobody waits for a permit that is free.
func TestP184Waking(t *testing.T) {
	t.Parallel()
	waiting := 0
	crowds(t, 200, func(u *users) {
		for n, s := range states(t, u.table) {
			waiting += len(s.Waiting)
			if s.Free > 0 && len(s.Waiting) > 0 {
				t.Fatalf("the lock %d: %+v", n+1, s)
			}
		}
	})
	if waiting < 1000 {
		t.Errorf("only %d wait", waiting)
	}
}

// TestP185Stuck checks that parties that are not stuck can do nothing for one that is, and that all others could go on.
func TestP185Stuck(t *testing.T) {
	t.Parallel()
	seen := 0
	crowds(t, 100, func(u *users) {
		stuck := u.table.Stuck()
		if len(stuck) == 0 || u.r.IntN(4) > 0 {
			return
		}
		seen++
		v := &users{table: u.table.Copy(), p: u.p.copy(), r: u.r, parties: u.parties}
		for range 40 {
			v.stepOfOthers(t, stuck)
		}
		for _, party := range stuck {
			if !v.p.isWaiting(party) || !slices.Contains(v.table.Stuck(), party) {
				t.Fatalf("%d was stuck: %+v, then %+v", party, u.p, v.p)
			}
		}
	})
	if seen < 500 {
		t.Errorf("only %d times somebody is stuck", seen)
	}
}

// stepOfOthers lets a party do something that is not stuck.
func (u *users) stepOfOthers(t *testing.T, stuck []int) {
	lock, party := 1+u.r.IntN(len(u.p.permits)), 1+u.r.IntN(u.parties)
	if u.r.IntN(2) == 0 && len(u.p.held) > 0 {
		a := u.p.held[u.r.IntN(len(u.p.held))]
		lock, party = a.lock, a.party
	}
	if slices.Contains(stuck, party) {
		return
	}
	switch u.r.IntN(5) {
	case 0:
		u.hold(t, lock, party)
	case 1:
		wantWithdraw(t, u.table, party, u.p.withdraw(party))
	default:
		u.free(t, lock, party)
	}
}
