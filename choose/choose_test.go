package choose

import (
	"math"
	"reflect"
	"slices"
	"strings"
	"testing"

	"seedbed/api"
)

func num(n int) api.Value { return api.Value{Kind: api.KInt, N: n} }

func ch(c int) api.Value { return api.Value{Kind: api.KChan, N: c} }

func receive(c int) api.Arm { return api.Arm{Op: api.CReceive, V: ch(c)} }

func send(n, c int) api.Arm { return api.Arm{Op: api.CSend, V: ch(c), W: num(n)} }

func after(n int) api.Arm { return api.Arm{Op: api.CAfter, N: n} }

func closedFault() api.Fault { return api.Fault{Kind: api.FThrow, Text: "closed"} }

func got(party, index, n int) api.Deal { return api.Deal{Who: party, Index: index, V: num(n)} }

func done(party, index int) api.Deal { return api.Deal{Who: party, Index: index} }

func failed(party, index int) api.Deal {
	return api.Deal{Who: party, Index: index, Fault: closedFault()}
}

func sameList[T any](a, b []T) bool { return len(a) == 0 && len(b) == 0 || reflect.DeepEqual(a, b) }

func sameState(s, u api.ChanState) bool {
	return sameList(s.Buffer, u.Buffer) && sameList(s.Waiters, u.Waiters) &&
		s.Cap == u.Cap && s.Policy == u.Policy && s.Closed == u.Closed && s.Dropped == u.Dropped
}

// newBoard makes a board with channels that wait, one for each capacity.
func newBoard(t *testing.T, capacities ...int) *Board {
	t.Helper()
	b := New()
	for i, capacity := range capacities {
		wantMake(t, b, capacity, api.PWait, i+1, api.OK)
	}
	return b
}

func wantMake(t *testing.T, b *Board, capacity, policy, want int, wantErr api.Errno) {
	t.Helper()
	if c, err := b.Make(capacity, policy); c != want || err != wantErr {
		t.Errorf("Make(%d, %d) = %d, %d, want %d, %d", capacity, policy, c, err, want, wantErr)
	}
}

// wantChoose checks a Choose without an else and without an error.
func wantChoose(t *testing.T, b *Board, party int, arms []api.Arm, want ...api.Deal) {
	t.Helper()
	if deals, err := b.Choose(party, arms, false); !sameList(deals, want) || err != api.OK {
		t.Errorf("Choose(%d, %v) = %v, %d, want %v", party, arms, deals, err, want)
	}
}

func wantError(t *testing.T, b *Board, party int, arms []api.Arm, want api.Errno) {
	t.Helper()
	for _, or := range []bool{false, true} {
		if or && want == api.ErrFull {
			continue
		}
		if deals, err := b.Choose(party, arms, or); len(deals) > 0 || err != want {
			t.Errorf("Choose(%d, %v, %t) = %v, %d, want %d", party, arms, or, deals, err, want)
		}
	}
}

// wantDeals checks what a Close, an Advance or a Tick returns.
func wantDeals(t *testing.T, what string, deals []api.Deal, err api.Errno, want ...api.Deal) {
	t.Helper()
	if !sameList(deals, want) || err != api.OK {
		t.Errorf("%s = %v, %d, want %v", what, deals, err, want)
	}
}

func wantClose(t *testing.T, b *Board, c int, want ...api.Deal) {
	t.Helper()
	deals, err := b.Close(c)
	wantDeals(t, "Close", deals, err, want...)
}

func wantTick(t *testing.T, b *Board, want ...api.Deal) {
	t.Helper()
	deals, err := b.Tick()
	wantDeals(t, "Tick", deals, err, want...)
}

func wantAdvance(t *testing.T, b *Board, to int, want ...api.Deal) {
	t.Helper()
	deals, err := b.Advance(to)
	wantDeals(t, "Advance", deals, err, want...)
}

func wantWithdraw(t *testing.T, b *Board, party int, want bool) {
	t.Helper()
	if was := b.Withdraw(party); was != want {
		t.Errorf("Withdraw(%d) = %t", party, was)
	}
}

func wantWaiting(t *testing.T, b *Board, want ...int) {
	t.Helper()
	if list := b.Waiting(); !sameList(list, want) {
		t.Errorf("%v wait, want %v", list, want)
	}
}

// wantChan checks who waits in a channel, by tickets, and what it has.
func wantChan(t *testing.T, b *Board, c int, tickets []int, values ...int) {
	t.Helper()
	s, err := b.Chan(c)
	var waiting, buffer []int
	for _, w := range s.Waiters {
		waiting = append(waiting, w.Ticket)
	}
	for _, v := range s.Buffer {
		buffer = append(buffer, v.N)
	}
	if err != api.OK || !sameList(waiting, tickets) || !sameList(buffer, values) {
		t.Errorf("the channel %d is %+v, %d, want the waiters %v and the values %v", c, s, err, tickets, values)
	}
}

func wantNext(t *testing.T, b *Board, want int, wantOk bool) {
	t.Helper()
	if at, ok := b.Next(); at != want || ok != wantOk {
		t.Errorf("Next = %d, %t, want %d, %t", at, ok, want, wantOk)
	}
}

// TestP171Examples checks the chapter's examples, one after the other.
func TestP171Examples(t *testing.T) {
	b := newBoard(t, 0)
	wantChoose(t, b, 1, []api.Arm{receive(1)})
	wantWaiting(t, b, 1)
	wantChoose(t, b, 2, []api.Arm{send(5, 1), after(3)}, done(2, 0), got(1, 0, 5))
	wantWaiting(t, b)
	wantNext(t, b, 0, false)
	wantChoose(t, b, 3, []api.Arm{receive(1), after(3)})
	wantChoose(t, b, 4, []api.Arm{after(3)})
	wantTick(t, b, done(3, 1), done(4, 0))
	wantChan(t, b, 1, nil)
	wantChoose(t, b, 5, []api.Arm{send(1, 1), receive(1)})
	wantChan(t, b, 1, []int{20, 21})
	wantChoose(t, b, 6, []api.Arm{receive(1)}, got(6, 0, 1), done(5, 0))
	wantChan(t, b, 1, nil)
	wantWaiting(t, b)
}

// TestP171Make checks the limits of channels.
func TestP171Make(t *testing.T) {
	b := New()
	wantMake(t, b, -1, 0, 0, api.ErrArg)
	wantMake(t, b, api.MaxCap+1, 0, 0, api.ErrArg)
	wantMake(t, b, 0, 3, 0, api.ErrArg)
	wantMake(t, b, 0, -1, 0, api.ErrArg)
	for c := range api.MaxChans {
		capacity, policy := c%(api.MaxCap+1), c%3
		wantMake(t, b, capacity, policy, c+1, api.OK)
		if s, err := b.Chan(c + 1); !sameState(s, api.ChanState{Cap: capacity, Policy: policy}) || err != api.OK {
			t.Errorf("Chan(%d) = %+v, %d", c+1, s, err)
		}
	}
	wantMake(t, b, 0, 0, 0, api.ErrFull)
	wantMake(t, b, math.MaxInt, 0, 0, api.ErrArg)
}

// TestP171Errors checks the errors of Choose, and which of them come first.
func TestP171Errors(t *testing.T) {
	b := newBoard(t, 0, 1)
	wantChoose(t, b, 9, nil)
	bad := api.Value{Kind: api.KInt, S: "x"}
	for _, x := range []struct {
		party int
		arms  []api.Arm
		want  api.Errno
	}{
		{0, nil, api.ErrArg}, {-1, nil, api.ErrArg}, {api.MaxParty + 1, nil, api.ErrArg}, {math.MaxInt, nil, api.ErrArg}, {math.MinInt, nil, api.ErrArg},
		{0, []api.Arm{{Op: api.CSend}}, api.ErrArg}, {1, make([]api.Arm, api.MaxCases+1), api.ErrArg}, {1, []api.Arm{receive(9), receive(9), receive(9), receive(9), receive(9)}, api.ErrArg},
		{1, []api.Arm{{}}, api.ErrArg}, {1, []api.Arm{{Op: api.CElse}}, api.ErrArg}, {1, []api.Arm{{Op: -1, V: ch(1)}}, api.ErrArg}, {1, []api.Arm{{Op: math.MaxInt}}, api.ErrArg},
		{1, []api.Arm{{Op: api.CReceive}}, api.ErrKind}, {1, []api.Arm{{Op: api.CReceive, V: num(1)}}, api.ErrKind}, {1, []api.Arm{{Op: api.CReceive, V: api.Value{Kind: math.MinInt, N: 1}}}, api.ErrKind},
		{1, []api.Arm{{Op: api.CSend, V: num(7), W: bad}}, api.ErrKind}, {1, []api.Arm{{Op: api.CReceive, V: api.Value{Kind: api.KLock, N: 3}}}, api.ErrKind},
		{1, []api.Arm{receive(0)}, api.ErrNone}, {1, []api.Arm{receive(3)}, api.ErrNone}, {1, []api.Arm{receive(-1)}, api.ErrNone}, {1, []api.Arm{receive(math.MaxInt)}, api.ErrNone}, {1, []api.Arm{receive(math.MinInt)}, api.ErrNone},
		{1, []api.Arm{{Op: api.CSend, V: ch(3), W: bad}}, api.ErrNone}, {1, []api.Arm{{Op: api.CSend, V: ch(2), W: bad}}, api.ErrArg}, {1, []api.Arm{{Op: api.CSend, V: ch(1), W: api.Value{Kind: 7}}}, api.ErrArg},
		{1, []api.Arm{send(1, 2), receive(3)}, api.ErrNone}, {1, []api.Arm{send(1, 2), {}, receive(3)}, api.ErrArg}, {1, []api.Arm{receive(3), {}}, api.ErrNone}, {1, []api.Arm{send(1, 2), {Op: api.CReceive}}, api.ErrKind},
		{1, []api.Arm{after(0), {Op: api.CSend, V: ch(2), W: bad}}, api.ErrArg},
		{9, nil, api.ErrTwice}, {9, []api.Arm{after(0)}, api.ErrTwice}, {9, []api.Arm{send(1, 2)}, api.ErrTwice}, {9, []api.Arm{receive(3)}, api.ErrNone}, {9, []api.Arm{after(math.MaxInt)}, api.ErrTwice},
	} {
		wantError(t, b, x.party, x.arms, x.want)
	}
	wantChan(t, b, 2, nil)
	wantWaiting(t, b, 9)
}

// TestP171Account checks that fields that are of no account are of none.
func TestP171Account(t *testing.T) {
	b := newBoard(t, 1)
	bad := api.Value{Kind: 99, N: -1, S: "\n"}
	name := api.Value{Kind: api.KChan, N: 1, S: "\n"}
	wantChoose(t, b, 1, []api.Arm{{Op: api.CReceive, V: name, W: bad, N: math.MinInt}, {Op: api.CAfter, V: bad, W: bad, N: 1}})
	wantChoose(t, b, api.MaxParty, []api.Arm{{Op: api.CSend, V: name, W: num(4), N: math.MaxInt}}, done(api.MaxParty, 0), got(1, 0, 4))
	wantChoose(t, b, 1, []api.Arm{{Op: api.CAfter, V: bad, W: bad}}, done(1, 0))
}

// TestP171Order checks that the first arm that can be done is done, and only that one.
func TestP171Order(t *testing.T) {
	b := newBoard(t, 0, 1, 1)
	wantClose(t, b, 1)
	for _, x := range []struct {
		arms []api.Arm
		want api.Deal
	}{
		{[]api.Arm{receive(2), after(-1), send(5, 2)}, done(7, 1)},
		{[]api.Arm{receive(2), receive(3), after(math.MinInt), after(0)}, done(7, 2)},
		{[]api.Arm{receive(2), receive(1), after(0)}, failed(7, 1)},
		{[]api.Arm{send(5, 1), receive(1)}, failed(7, 0)},
		{[]api.Arm{after(1), after(math.MaxInt), receive(3), send(6, 2)}, done(7, 3)},
		{[]api.Arm{send(7, 2), receive(2), send(8, 3)}, got(7, 1, 6)},
		{[]api.Arm{send(7, 2), send(8, 3)}, done(7, 0)},
		{[]api.Arm{receive(3), send(8, 3), receive(2)}, done(7, 1)},
	} {
		for _, or := range []bool{true, false} {
			c := b
			if or {
				c = b.Copy()
			}
			if deals, err := c.Choose(7, x.arms, or); !sameList(deals, []api.Deal{x.want}) || err != api.OK {
				t.Errorf("Choose(%v, %t) = %v, %d, want %v", x.arms, or, deals, err, x.want)
			}
		}
	}
	wantChan(t, b, 2, nil, 7)
	wantChan(t, b, 3, nil, 8)
	wantWaiting(t, b)
}

// TestP171Else checks what is done with an else, and that nothing stands then.
func TestP171Else(t *testing.T) {
	b := newBoard(t, 0)
	for n, arms := range [][]api.Arm{nil, {receive(1)}, {receive(1), send(1, 1)}, {after(1), send(1, 1), after(math.MaxInt)}, {receive(1), receive(1), receive(1), after(5)}} {
		if deals, err := b.Choose(3, arms, true); !sameList(deals, []api.Deal{done(3, n)}) || err != api.OK {
			t.Errorf("Choose(%v) = %v, %d", arms, deals, err)
		}
	}
	wantWaiting(t, b)
	wantChan(t, b, 1, nil)
	wantNext(t, b, 0, false)
}

// TestP171Arms checks that a deal removes all other arms of its party, wherever they stand.
func TestP171Arms(t *testing.T) {
	b := newBoard(t, 0, 0, 1)
	wantChoose(t, b, 1, []api.Arm{receive(1), receive(2), after(9), receive(3)})
	wantChoose(t, b, 2, []api.Arm{receive(2), after(4), receive(1)})
	wantChan(t, b, 1, []int{4, 10})
	wantChan(t, b, 2, []int{5, 8})
	wantChan(t, b, 3, []int{7})
	wantNext(t, b, 4, true)
	wantChoose(t, b, 3, []api.Arm{send(6, 2)}, done(3, 0), got(1, 1, 6))
	wantChan(t, b, 1, []int{10})
	wantChan(t, b, 2, []int{8})
	wantChan(t, b, 3, nil)
	wantChoose(t, b, 1, []api.Arm{after(4), receive(1)})
	wantWithdraw(t, b, 2, true)
	wantChan(t, b, 1, []int{5})
	wantTick(t, b, done(1, 0))
	wantChan(t, b, 1, nil)
	wantNext(t, b, 0, false)
	wantChoose(t, b, 4, []api.Arm{send(1, 3), send(2, 3)}, done(4, 0))
	wantChoose(t, b, 4, []api.Arm{send(2, 3), send(3, 1), after(1), send(4, 3)})
	wantChoose(t, b, 5, []api.Arm{receive(3)}, got(5, 0, 1), done(4, 0))
	wantChan(t, b, 3, nil, 2)
	wantChan(t, b, 1, nil)
	wantNext(t, b, 0, false)
}

// TestP171Close checks that a party gets one deal at most, that of its first arm in the channel.
func TestP171Close(t *testing.T) {
	b := newBoard(t, 0, 0)
	wantChoose(t, b, 1, []api.Arm{after(5), receive(1), receive(1), receive(2)})
	wantChoose(t, b, 3, []api.Arm{receive(2), receive(1)})
	wantChoose(t, b, 2, []api.Arm{receive(1)})
	wantChoose(t, b, 4, []api.Arm{receive(2), after(6)})
	wantClose(t, b, 1, failed(1, 1), failed(3, 1), failed(2, 0))
	wantWaiting(t, b, 4)
	wantChan(t, b, 2, []int{16})
	wantNext(t, b, 6, true)
	wantClose(t, b, 1)
	wantChoose(t, b, 1, []api.Arm{receive(2), send(1, 1)}, failed(1, 1))
	wantChoose(t, b, 5, nil)
	wantClose(t, b, 2, failed(4, 0))
	wantWaiting(t, b, 5)
	wantNext(t, b, 0, false)
	b = newBoard(t, 1)
	wantChoose(t, b, 1, []api.Arm{send(1, 1)}, done(1, 0))
	wantChoose(t, b, 1, []api.Arm{send(2, 1), send(3, 1)})
	wantClose(t, b, 1, failed(1, 0))
	wantChoose(t, b, 1, []api.Arm{receive(1)}, got(1, 0, 1))
	wantChoose(t, b, 1, []api.Arm{receive(1)}, failed(1, 0))
	for _, c := range []int{0, 2, -1, math.MaxInt, math.MinInt} {
		if deals, err := b.Close(c); len(deals) > 0 || err != api.ErrNone {
			t.Errorf("Close(%d) = %v, %d", c, deals, err)
		}
	}
}

// TestP171Time checks the order of what fires, and that a party gets one deal at most.
func TestP171Time(t *testing.T) {
	b := newBoard(t, 0)
	wantChoose(t, b, 1, []api.Arm{after(7), after(5), receive(1), after(5)})
	wantChoose(t, b, 2, []api.Arm{after(6)})
	wantChoose(t, b, 3, []api.Arm{after(3)})
	wantChoose(t, b, 4, []api.Arm{after(5), after(8)})
	wantAdvance(t, b, 2)
	wantNext(t, b, 3, true)
	wantTick(t, b, done(3, 0))
	wantChoose(t, b, 5, []api.Arm{receive(1), after(3)})
	wantAdvance(t, b, 7, done(1, 1), done(4, 0), done(2, 0), done(5, 1))
	wantNext(t, b, 0, false)
	if deals, err := b.Tick(); len(deals) > 0 || err != api.ErrNone || b.Now() != 7 {
		t.Errorf("Tick = %v, %d, at %d", deals, err, b.Now())
	}
	for _, to := range []int{6, -1, math.MinInt, api.MaxTime + 1, math.MaxInt} {
		if deals, err := b.Advance(to); len(deals) > 0 || err != api.ErrArg || b.Now() != 7 {
			t.Errorf("Advance(%d) = %v, %d, at %d", to, deals, err, b.Now())
		}
	}
	wantChoose(t, b, 1, []api.Arm{after(api.MaxTime - 7)})
	wantError(t, b, 2, []api.Arm{after(api.MaxTime - 6)}, api.ErrFull)
	wantTick(t, b, done(1, 0))
	if b.Now() != api.MaxTime {
		t.Errorf("Now is %d", b.Now())
	}
	wantAdvance(t, b, api.MaxTime)
	wantError(t, b, 2, []api.Arm{after(1)}, api.ErrFull)
	wantChoose(t, b, 2, []api.Arm{after(1), after(0)}, done(2, 1))
}

// TestP171None checks that a party without arms waits until it is withdrawn.
func TestP171None(t *testing.T) {
	b := newBoard(t, 0)
	wantChoose(t, b, 8, nil)
	wantChoose(t, b, api.MaxParty, []api.Arm{})
	wantChoose(t, b, 3, []api.Arm{receive(1)})
	wantAdvance(t, b, api.MaxTime)
	wantClose(t, b, 1, failed(3, 0))
	wantWaiting(t, b, 8, api.MaxParty)
	for _, party := range []int{0, 3, 7, -8, math.MaxInt, math.MinInt} {
		wantWithdraw(t, b, party, false)
	}
	wantWithdraw(t, b, 8, true)
	wantWithdraw(t, b, 8, false)
	wantWaiting(t, b, api.MaxParty)
}

// TestP171Full checks the limits of what stands, and that nothing of an arm that is too much stands.
func TestP171Full(t *testing.T) {
	b := newBoard(t, 0, 0)
	for _, arms := range [][]api.Arm{
		{receive(1), after(5), after(api.MaxTime + 1)}, {after(math.MaxInt), receive(1)}, {send(1, 1), after(api.MaxTime), after(math.MaxInt)},
	} {
		wantError(t, b, 1, arms, api.ErrFull)
	}
	for party := range api.MaxTimers/4 - 1 {
		wantChoose(t, b, party+1, []api.Arm{after(5), after(6), after(7), after(8)})
	}
	wantChoose(t, b, 200, []api.Arm{after(9), after(9)})
	wantError(t, b, 201, []api.Arm{receive(1), after(3), after(4), after(5)}, api.ErrFull)
	wantChoose(t, b, 201, []api.Arm{after(3), receive(1), after(4)})
	wantError(t, b, 202, []api.Arm{after(3)}, api.ErrFull)
	wantChoose(t, b, 202, []api.Arm{after(3), send(1, 1)}, done(202, 1), got(201, 1, 1))
	wantChan(t, b, 1, nil)
	wantChoose(t, b, 202, []api.Arm{after(11), after(12)})
	wantNext(t, b, 5, true)

	for party := 1001; party <= 1000+api.MaxWaits-2; party++ {
		wantChoose(t, b, party, []api.Arm{receive(1)})
	}
	wantError(t, b, 2000, []api.Arm{receive(2), receive(1), receive(1), receive(1)}, api.ErrFull)
	wantChan(t, b, 2, nil)
	wantChoose(t, b, 2000, []api.Arm{receive(1), receive(2), receive(1)})
	wantError(t, b, 2001, []api.Arm{receive(2), receive(1)}, api.ErrFull)
	wantChan(t, b, 2, []int{8001})
	wantChoose(t, b, 2001, []api.Arm{receive(2)})
	wantWithdraw(t, b, 2000, true)
	wantChoose(t, b, 2002, []api.Arm{receive(1), receive(1)})
	wantError(t, b, 2003, []api.Arm{receive(1)}, api.ErrFull)
	if got := len(b.Waiting()); got != api.MaxTimers/4-1+2+api.MaxWaits-2+2 {
		t.Errorf("%d wait", got)
	}
}

// TestP171Nil checks the results of no board, and that a board that was not made by New has the same state as one that was.
func TestP171Nil(t *testing.T) {
	var b *Board
	wantMake(t, b, 0, 0, 0, api.ErrArg)
	wantError(t, b, 1, nil, api.ErrArg)
	wantWithdraw(t, b, 1, false)
	wantWaiting(t, b)
	wantNext(t, b, 0, false)
	for what, call := range map[string]func() ([]api.Deal, api.Errno){
		"Close": func() ([]api.Deal, api.Errno) { return b.Close(1) }, "Advance": func() ([]api.Deal, api.Errno) { return b.Advance(0) }, "Tick": b.Tick,
	} {
		if deals, err := call(); len(deals) > 0 || err != api.ErrArg {
			t.Errorf("%s = %v, %d", what, deals, err)
		}
	}
	if s, err := b.Chan(1); !sameState(s, api.ChanState{}) || err != api.ErrArg || b.Now() != 0 || b.Copy() != nil {
		t.Errorf("Chan = %+v, %d; Now = %d; Copy = %v", s, err, b.Now(), b.Copy())
	}
	wantTimers(t, b, nil)
	b = &Board{}
	wantTimers(t, b, nil)
	wantChoose(t, b, 1, []api.Arm{after(3)})
	wantWithdraw(t, b.Copy(), 1, true)
	wantTick(t, b, done(1, 0))
	wantMake(t, b, 0, 0, 1, api.OK)
	wantChoose(t, b, 1, []api.Arm{receive(1)})
	for _, c := range []int{0, -1, 2, math.MinInt, math.MaxInt} {
		if s, err := b.Chan(c); !sameState(s, api.ChanState{}) || err != api.ErrNone {
			t.Errorf("Chan(%d) = %+v, %d", c, s, err)
		}
	}
}

// TestP171Values checks that values of all kinds go from party to party.
func TestP171Values(t *testing.T) {
	b := newBoard(t, 0)
	for _, v := range []api.Value{{}, num(api.MaxInt), num(-api.MaxInt), {Kind: api.KBool, N: 1}, {Kind: api.KText, S: strings.Repeat("~", api.MaxText)}, ch(1), {Kind: api.KTask, N: 5}, {Kind: api.KLock, N: api.MaxInt}} {
		arms := []api.Arm{{Op: api.CSend, V: ch(1), W: v}}
		wantChoose(t, b, 1, []api.Arm{receive(1)})
		wantChoose(t, b, 2, arms, done(2, 0), api.Deal{Who: 1, V: v})
		wantChoose(t, b, 2, arms)
		wantChoose(t, b, 1, []api.Arm{receive(1)}, api.Deal{Who: 1, V: v}, done(2, 0))
	}
}

// TestP171Copies checks that what is done with a copy does not change the board, nor the other way round.
func TestP171Copies(t *testing.T) {
	b := newBoard(t, 0, 1)
	wantChoose(t, b, 1, []api.Arm{receive(1), after(5)})
	wantChoose(t, b, 2, []api.Arm{after(7)})
	d := b.Copy()
	wantMake(t, d, 0, 0, 3, api.OK)
	wantChoose(t, d, 3, []api.Arm{send(4, 1)}, done(3, 0), got(1, 0, 4))
	wantChoose(t, d, 3, []api.Arm{send(4, 2)}, done(3, 0))
	wantTick(t, d, done(2, 0))
	wantChoose(t, d, 4, []api.Arm{after(1), receive(3)})
	wantWaiting(t, b, 1, 2)
	wantChan(t, b, 1, []int{4})
	wantChan(t, b, 2, nil)
	wantTick(t, b, done(1, 1))
	wantMake(t, b, 0, 0, 3, api.OK)
	wantWithdraw(t, b, 2, true)
	wantClose(t, b, 3)
	wantWaiting(t, d, 4)
	wantChan(t, d, 3, []int{17})
	wantTick(t, d, done(4, 0))
	if b.Now() != 5 || d.Now() != 8 {
		t.Errorf("the times are %d and %d", b.Now(), d.Now())
	}
}

// TestP171Memory checks that arguments are neither changed nor kept, and that results are new memory.
func TestP171Memory(t *testing.T) {
	b := newBoard(t, 1)
	arms := []api.Arm{send(1, 1), after(4)}
	wantChoose(t, b, 1, arms, done(1, 0))
	wantChoose(t, b, 1, arms)
	if !slices.Equal(arms, []api.Arm{send(1, 1), after(4)}) {
		t.Errorf("the arms are %v", arms)
	}
	arms[0], arms[1] = send(9, 9), after(2)
	waiting := b.Waiting()
	waiting[0] = 9
	s, _ := b.Chan(1)
	s.Buffer[0], s.Waiters[0].Ticket = num(9), 9
	wantWaiting(t, b, 1)
	wantNext(t, b, 4, true)
	wantChan(t, b, 1, []int{4}, 1)
	wantChoose(t, b, 2, []api.Arm{receive(1)}, got(2, 0, 1), done(1, 0))
}
