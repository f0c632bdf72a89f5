package channel

import (
	"math"
	"reflect"
	"strings"
	"testing"

	"seedbed/api"
)

func num(n int) api.Value { return api.Value{Kind: api.KInt, N: n} }

// nums are the values of numbers.
func nums(list ...int) []api.Value {
	var values []api.Value
	for _, n := range list {
		values = append(values, num(n))
	}
	return values
}

func throwClosed() api.Fault { return api.Fault{Kind: api.FThrow, Text: "closed"} }

// wrong are values that are not valid.
func wrong() []api.Value {
	return []api.Value{
		{N: 1}, {S: "a"}, {Kind: -1}, {Kind: 7}, {Kind: math.MaxInt}, {Kind: math.MinInt}, num(api.MaxInt + 1), num(-api.MaxInt - 1), num(math.MinInt), {Kind: api.KInt, S: "1"},
		{Kind: api.KBool, N: 2}, {Kind: api.KBool, N: -1}, {Kind: api.KBool, S: "a"}, {Kind: api.KText, N: 1}, {Kind: api.KText, S: "\n"}, {Kind: api.KText, S: "\x7f"}, {Kind: api.KText, S: strings.Repeat("a", api.MaxText+1)},
		{Kind: api.KChan}, {Kind: api.KTask, N: -1}, {Kind: api.KLock, N: api.MaxInt + 1}, {Kind: api.KChan, N: 1, S: "a"},
	}
}

// right are values of all kinds.
func right() []api.Value {
	return []api.Value{{}, num(0), num(api.MaxInt), num(-api.MaxInt), {Kind: api.KBool}, {Kind: api.KBool, N: 1}, {Kind: api.KText}, {Kind: api.KText, S: strings.Repeat(" ~", api.MaxText/2)}, {Kind: api.KChan, N: 1}, {Kind: api.KTask, N: api.MaxInt}, {Kind: api.KLock, N: 5}}
}

func newChan(t *testing.T, capacity, policy int) *Chan {
	t.Helper()
	c, err := New(capacity, policy)
	if c == nil || err != api.OK {
		t.Fatalf("New(%d, %d) = %v, %d", capacity, policy, c, err)
	}
	return c
}

// wantState checks a state; lists that are empty may be nil.
func wantState(t *testing.T, c *Chan, want api.ChanState) {
	t.Helper()
	got := c.State()
	if !sameState(got, want) {
		t.Errorf("the state is %+v, want %+v", got, want)
	}
}

func sameState(s, u api.ChanState) bool {
	return sameList(s.Buffer, u.Buffer) && sameList(s.Waiters, u.Waiters) &&
		s.Cap == u.Cap && s.Policy == u.Policy && s.Closed == u.Closed && s.Dropped == u.Dropped
}

func sameList[T any](a, b []T) bool { return len(a) == 0 && len(b) == 0 || reflect.DeepEqual(a, b) }

// result is what an Offer or a Take returns; the value is zero of an Offer.
type result struct {
	v     api.Value
	deals []api.Deal
	fault api.Fault
	done  bool
}

func offer(c *Chan, v api.Value) (r result) {
	r.deals, r.fault, r.done = c.Offer(v)
	return r
}

func take(c *Chan) (r result) {
	r.v, r.deals, r.fault, r.done = c.Take()
	return r
}

func (r result) same(s result) bool {
	return r.v == s.v && sameList(r.deals, s.deals) && r.fault == s.fault && r.done == s.done
}

func wantOffer(t *testing.T, c *Chan, v api.Value, want result) {
	t.Helper()
	if got := offer(c, v); !got.same(want) {
		t.Errorf("Offer(%v) = %+v, want %+v, then %+v", v, got, want, c.State())
	}
}

func wantTake(t *testing.T, c *Chan, want result) {
	t.Helper()
	if got := take(c); !got.same(want) {
		t.Errorf("Take = %+v, want %+v, then %+v", got, want, c.State())
	}
}

func wantPark(t *testing.T, c *Chan, ticket int, send bool, v api.Value, want api.Errno) {
	t.Helper()
	if err := c.Park(ticket, send, v); err != want {
		t.Errorf("Park(%d, %t, %v) = %d, want %d", ticket, send, v, err, want)
	}
}

func wantWithdraw(t *testing.T, c *Chan, ticket int, want bool) {
	t.Helper()
	if was := c.Withdraw(ticket); was != want {
		t.Errorf("Withdraw(%d) = %t", ticket, was)
	}
}

func wantClose(t *testing.T, c *Chan, tickets ...int) {
	t.Helper()
	var want []api.Deal
	for _, n := range tickets {
		want = append(want, api.Deal{Who: n, Fault: throwClosed()})
	}
	if deals := c.Close(); !sameList(deals, want) {
		t.Errorf("Close = %v, want %v", deals, want)
	}
}

// filled makes a channel with values from 1 on in its buffer.
func filled(t *testing.T, capacity, policy, size int) *Chan {
	t.Helper()
	c := newChan(t, capacity, policy)
	for n := range size {
		wantOffer(t, c, num(n+1), result{done: true})
	}
	return c
}

// TestP161Examples checks the chapter's examples.
func TestP161Examples(t *testing.T) {
	c := newChan(t, 1, api.PWait)
	wantOffer(t, c, num(1), result{done: true})
	wantOffer(t, c, num(2), result{})
	wantPark(t, c, 7, true, num(2), api.OK)
	wantTake(t, c, result{v: num(1), deals: []api.Deal{{Who: 7}}, done: true})
	wantTake(t, c, result{v: num(2), done: true})
	wantTake(t, c, result{})

	c = newChan(t, 0, api.PWait)
	wantTake(t, c, result{})
	wantPark(t, c, 3, false, num(0), api.OK)
	wantOffer(t, c, num(5), result{deals: []api.Deal{{Who: 3, V: num(5)}}, done: true})
	wantState(t, c, api.ChanState{})

	c = filled(t, 2, api.POldest, 3)
	wantState(t, c, api.ChanState{Cap: 2, Policy: api.POldest, Buffer: nums(2, 3), Dropped: 1})

	c = filled(t, 2, api.PWait, 1)
	wantClose(t, c)
	wantTake(t, c, result{v: num(1), done: true})
	wantTake(t, c, result{fault: throwClosed(), done: true})
}

// TestP161New checks which channels there are.
func TestP161New(t *testing.T) {
	for capacity := -1; capacity <= api.MaxCap+1; capacity++ {
		for policy := -1; policy <= api.PNewest+1; policy++ {
			if capacity >= 0 && capacity <= api.MaxCap && policy >= api.PWait && policy <= api.PNewest {
				wantState(t, newChan(t, capacity, policy), api.ChanState{Cap: capacity, Policy: policy})
			} else if c, err := New(capacity, policy); c != nil || err != api.ErrArg {
				t.Errorf("New(%d, %d) = %v, %d", capacity, policy, c, err)
			}
		}
	}
	for _, n := range []int{math.MaxInt, math.MinInt, 1 << 32} {
		if c, err := New(n, api.PWait); c != nil || err != api.ErrArg {
			t.Errorf("New(%d, 0) = %v, %d", n, c, err)
		}
		if c, err := New(1, n); c != nil || err != api.ErrArg {
			t.Errorf("New(1, %d) = %v, %d", n, c, err)
		}
	}
}

// TestP161Nil checks what a nil channel does.
func TestP161Nil(t *testing.T) {
	var c *Chan
	wantOffer(t, c, num(1), result{})
	wantOffer(t, c, api.Value{N: 1}, result{})
	wantTake(t, c, result{})
	for _, ticket := range []int{1, 0, -1, math.MaxInt} {
		wantPark(t, c, ticket, true, num(1), api.ErrArg)
		wantPark(t, c, ticket, false, num(1), api.ErrArg)
		wantWithdraw(t, c, ticket, false)
	}
	wantClose(t, c)
	wantState(t, c, api.ChanState{})
	if d := c.Copy(); d != nil {
		t.Errorf("Copy = %v", d)
	}
}

// TestP161Values checks that what is sent is received as it was, and what cannot be sent.
func TestP161Values(t *testing.T) {
	for _, v := range right() {
		c := newChan(t, 1, api.PWait)
		wantOffer(t, c, v, result{done: true})
		wantPark(t, c, 1, true, v, api.OK)
		wantState(t, c, api.ChanState{Cap: 1, Buffer: []api.Value{v}, Waiters: []api.Waiter{{Ticket: 1, Send: true, V: v}}})
		wantTake(t, c, result{v: v, deals: []api.Deal{{Who: 1}}, done: true})
		wantTake(t, c, result{v: v, done: true})
		wantPark(t, c, 1, false, v, api.OK)
		wantState(t, c, api.ChanState{Cap: 1, Waiters: []api.Waiter{{Ticket: 1}}})
		wantOffer(t, c, v, result{deals: []api.Deal{{Who: 1, V: v}}, done: true})
	}
	for _, v := range wrong() {
		for policy := range 3 {
			c := filled(t, 2, policy, 1)
			wantPark(t, c, 1, true, v, api.ErrArg)
			wantPark(t, c, 1, false, v, api.OK)
			wantOffer(t, c, v, result{})
			want := api.ChanState{Cap: 2, Policy: policy, Buffer: nums(1), Waiters: []api.Waiter{{Ticket: 1}}}
			wantState(t, c, want)
			wantClose(t, c, 1)
			wantOffer(t, c, v, result{})
			want.Closed, want.Waiters = true, nil
			wantState(t, c, want)
		}
	}
}

// TestP161Full checks what is done with a value for which there is no room.
func TestP161Full(t *testing.T) {
	for capacity := range api.MaxCap + 1 {
		for more := range 2*api.MaxCap + 1 {
			var all []int
			for n := range capacity + more {
				all = append(all, n+1)
			}
			c := filled(t, capacity, api.POldest, capacity+more)
			wantState(t, c, api.ChanState{Cap: capacity, Policy: api.POldest, Buffer: nums(all[more:]...), Dropped: more})
			c = filled(t, capacity, api.PNewest, capacity+more)
			wantState(t, c, api.ChanState{Cap: capacity, Policy: api.PNewest, Buffer: nums(all[:capacity]...), Dropped: more})
			c = filled(t, capacity, api.PWait, capacity)
			wantOffer(t, c, num(99), result{})
			wantState(t, c, api.ChanState{Cap: capacity, Buffer: nums(all[:capacity]...)})
			for n := range capacity {
				wantTake(t, c, result{v: num(n + 1), done: true})
			}
			wantTake(t, c, result{})
		}
	}
}

// TestP161Receivers checks that the first receiver gets what is sent, whatever else there is.
func TestP161Receivers(t *testing.T) {
	for policy := range 3 {
		for capacity := range 3 {
			for size := range capacity + 1 {
				c := filled(t, capacity, policy, size)
				wantPark(t, c, 5, true, num(50), api.OK)
				wantPark(t, c, 9, false, num(90), api.OK)
				wantPark(t, c, 4, false, num(40), api.OK)
				wantPark(t, c, 6, true, num(60), api.OK)
				buffer := nums(1, 2)[:size]
				wantOffer(t, c, num(7), result{deals: []api.Deal{{Who: 9, V: num(7)}}, done: true})
				wantState(t, c, api.ChanState{Cap: capacity, Policy: policy, Buffer: buffer, Waiters: []api.Waiter{{Ticket: 5, Send: true, V: num(50)}, {Ticket: 4}, {Ticket: 6, Send: true, V: num(60)}}})
				wantOffer(t, c, num(8), result{deals: []api.Deal{{Who: 4, V: num(8)}}, done: true})
				wantState(t, c, api.ChanState{Cap: capacity, Policy: policy, Buffer: buffer, Waiters: []api.Waiter{{Ticket: 5, Send: true, V: num(50)}, {Ticket: 6, Send: true, V: num(60)}}})
				if size < capacity {
					wantOffer(t, c, num(9), result{done: true})
					wantState(t, c, api.ChanState{Cap: capacity, Policy: policy, Buffer: append(buffer, num(9)), Waiters: []api.Waiter{{Ticket: 5, Send: true, V: num(50)}, {Ticket: 6, Send: true, V: num(60)}}})
				}
			}
		}
	}
}

// TestP161Senders checks that the value of the first sender is received, or put into the buffer, whatever else there is.
func TestP161Senders(t *testing.T) {
	for policy := range 3 {
		for capacity := range 4 {
			for size := range capacity + 1 {
				c := filled(t, capacity, policy, size)
				wantPark(t, c, 9, false, num(90), api.OK)
				wantPark(t, c, 5, true, num(50), api.OK)
				wantPark(t, c, 4, true, num(40), api.OK)
				values := append(nums(1, 2, 3)[:size:size], num(50), num(40))
				wantTake(t, c, result{v: values[0], deals: []api.Deal{{Who: 5}}, done: true})
				wantState(t, c, api.ChanState{Cap: capacity, Policy: policy, Buffer: values[1 : size+1], Waiters: []api.Waiter{{Ticket: 9}, {Ticket: 4, Send: true, V: num(40)}}})
				wantTake(t, c, result{v: values[1], deals: []api.Deal{{Who: 4}}, done: true})
				for _, v := range values[2:] {
					wantTake(t, c, result{v: v, done: true})
				}
				wantState(t, c, api.ChanState{Cap: capacity, Policy: policy, Waiters: []api.Waiter{{Ticket: 9}}})
				wantTake(t, c, result{})
			}
		}
	}
}

// TestP161Closed checks what a closed channel does, also with those that are parked afterwards.
func TestP161Closed(t *testing.T) {
	for policy := range 3 {
		c := filled(t, 2, policy, 2)
		wantPark(t, c, 3, true, num(3), api.OK)
		wantPark(t, c, 1, false, num(0), api.OK)
		wantPark(t, c, 2, true, num(4), api.OK)
		wantClose(t, c, 3, 1, 2)
		want := api.ChanState{Cap: 2, Policy: policy, Closed: true, Buffer: nums(1, 2)}
		wantState(t, c, want)
		wantOffer(t, c, num(9), result{fault: throwClosed(), done: true})
		wantState(t, c, want)
		wantPark(t, c, 8, false, num(0), api.OK)
		wantPark(t, c, 2, true, num(5), api.OK)
		wantPark(t, c, 6, true, num(6), api.OK)
		wantOffer(t, c, num(9), result{fault: throwClosed(), done: true})
		wantClose(t, c)
		want.Waiters = []api.Waiter{{Ticket: 8}, {Ticket: 2, Send: true, V: num(5)}, {Ticket: 6, Send: true, V: num(6)}}
		wantState(t, c, want)
		wantTake(t, c, result{v: num(1), deals: []api.Deal{{Who: 2}}, done: true})
		wantWithdraw(t, c, 6, true)
		wantTake(t, c, result{v: num(2), done: true})
		wantTake(t, c, result{v: num(5), done: true})
		wantTake(t, c, result{fault: throwClosed(), done: true})
		wantPark(t, c, 6, true, num(7), api.OK)
		wantTake(t, c, result{v: num(7), deals: []api.Deal{{Who: 6}}, done: true})
		wantTake(t, c, result{fault: throwClosed(), done: true})
		wantState(t, c, api.ChanState{Cap: 2, Policy: policy, Closed: true, Waiters: []api.Waiter{{Ticket: 8}}})
	}
	c := newChan(t, 0, api.PNewest)
	wantClose(t, c)
	wantOffer(t, c, num(1), result{fault: throwClosed(), done: true})
	wantTake(t, c, result{fault: throwClosed(), done: true})
	wantState(t, c, api.ChanState{Policy: api.PNewest, Closed: true})
}

// TestP161Park checks the errors of Park and their order, and that they have no effect.
func TestP161Park(t *testing.T) {
	c := newChan(t, 1, api.PWait)
	var waiters []api.Waiter
	for n := range api.MaxWaits - 1 {
		w := api.Waiter{Ticket: 1000 - n, Send: n%3 == 0}
		if w.Send {
			w.V = num(n)
		}
		waiters = append(waiters, w)
		wantPark(t, c, w.Ticket, w.Send, w.V, api.OK)
	}
	wantErrors := func(other api.Errno) {
		t.Helper()
		for _, ticket := range []int{0, -1, math.MinInt} {
			wantPark(t, c, ticket, true, num(1), api.ErrArg)
			wantPark(t, c, ticket, false, num(1), api.ErrArg)
		}
		wantPark(t, c, 1000, true, api.Value{N: 1}, api.ErrArg)
		wantPark(t, c, 1, true, api.Value{N: 1}, api.ErrArg)
		wantPark(t, c, 1000, true, num(1), api.ErrTwice)
		wantPark(t, c, 999, false, num(1), api.ErrTwice)
		wantPark(t, c, 998, false, api.Value{N: 1}, api.ErrTwice)
		if other != api.OK {
			wantPark(t, c, 1, true, num(1), other)
			wantPark(t, c, 2, false, num(1), other)
		}
		wantState(t, c, api.ChanState{Cap: 1, Waiters: waiters})
	}
	wantErrors(api.OK)
	wantPark(t, c, math.MaxInt, false, num(1), api.OK)
	waiters = append(waiters, api.Waiter{Ticket: math.MaxInt})
	wantPark(t, c, math.MaxInt, false, num(1), api.ErrTwice)
	wantErrors(api.ErrFull)
	wantWithdraw(t, c, 990, true)
	wantPark(t, c, 990, false, num(1), api.OK)
	waiters = append(append(waiters[:10:10], waiters[11:]...), api.Waiter{Ticket: 990})
	wantErrors(api.ErrFull)
	wantTake(t, c, result{v: num(0), deals: []api.Deal{{Who: 1000}}, done: true})
	wantPark(t, c, 1000, true, num(1), api.OK)
	wantPark(t, c, 1, true, num(1), api.ErrFull)
	wantOffer(t, c, num(1), result{deals: []api.Deal{{Who: 999, V: num(1)}}, done: true})
	wantPark(t, c, 1, true, num(1), api.OK)
	wantPark(t, c, 2, true, num(1), api.ErrFull)
}

// TestP161Withdraw checks that only those that wait are withdrawn, wherever they stand.
func TestP161Withdraw(t *testing.T) {
	for _, gone := range []int{5, 3, 9, 7} {
		c := newChan(t, 2, api.PNewest)
		var left []api.Waiter
		for i, ticket := range []int{5, 3, 9, 7} {
			w := api.Waiter{Ticket: ticket, Send: i%2 == 0}
			if w.Send {
				w.V = num(ticket)
			}
			wantPark(t, c, ticket, w.Send, w.V, api.OK)
			if ticket != gone {
				left = append(left, w)
			}
		}
		for _, ticket := range []int{0, -1, 4, math.MaxInt, math.MinInt} {
			wantWithdraw(t, c, ticket, false)
		}
		wantWithdraw(t, c, gone, true)
		wantState(t, c, api.ChanState{Cap: 2, Policy: api.PNewest, Waiters: left})
		wantWithdraw(t, c, gone, false)
		wantPark(t, c, gone, false, num(1), api.OK)
		left = append(left, api.Waiter{Ticket: gone})
		wantState(t, c, api.ChanState{Cap: 2, Policy: api.PNewest, Waiters: left})
		for _, w := range left {
			wantWithdraw(t, c, w.Ticket, true)
		}
		wantState(t, c, api.ChanState{Cap: 2, Policy: api.PNewest})
	}
}

// TestP161Copies checks that what is done with a copy does not change the channel, nor the other way round.
func TestP161Copies(t *testing.T) {
	c := filled(t, 3, api.POldest, 5)
	wantPark(t, c, 1, true, num(6), api.OK)
	wantPark(t, c, 2, false, num(0), api.OK)
	d := c.Copy()
	before := api.ChanState{Cap: 3, Policy: api.POldest, Buffer: nums(3, 4, 5), Waiters: []api.Waiter{{Ticket: 1, Send: true, V: num(6)}, {Ticket: 2}}, Dropped: 2}
	wantState(t, d, before)
	wantPark(t, d, 3, true, num(7), api.OK)
	wantTake(t, d, result{v: num(3), deals: []api.Deal{{Who: 1}}, done: true})
	wantClose(t, d, 2, 3)
	wantState(t, c, before)
	after := api.ChanState{Cap: 3, Policy: api.POldest, Closed: true, Buffer: nums(4, 5, 6), Dropped: 2}
	wantWithdraw(t, c, 2, true)
	wantOffer(t, c, num(9), result{done: true})
	wantPark(t, c, 4, false, num(0), api.OK)
	wantState(t, c, api.ChanState{Cap: 3, Policy: api.POldest, Buffer: nums(4, 5, 9), Waiters: []api.Waiter{{Ticket: 1, Send: true, V: num(6)}, {Ticket: 4}}, Dropped: 3})
	wantState(t, d, after)
	wantState(t, newChan(t, 2, api.PNewest).Copy(), api.ChanState{Cap: 2, Policy: api.PNewest})
}

// TestP161Memory checks that results are new memory.
func TestP161Memory(t *testing.T) {
	c := filled(t, 2, api.PWait, 2)
	wantPark(t, c, 1, true, num(3), api.OK)
	wantPark(t, c, 2, false, num(3), api.OK)
	s := c.State()
	s.Buffer[0], s.Waiters[0].Ticket = num(9), 9
	want := api.ChanState{Cap: 2, Buffer: nums(1, 2), Waiters: []api.Waiter{{Ticket: 1, Send: true, V: num(3)}, {Ticket: 2}}}
	wantState(t, c, want)
	s = c.State()
	wantTake(t, c, result{v: num(1), deals: []api.Deal{{Who: 1}}, done: true})
	wantClose(t, c, 2)
	if !sameState(s, want) {
		t.Errorf("the state has become %+v", s)
	}
}

// TestP161Cells checks that the buffer keeps nothing of values that have been received or dropped.
func TestP161Cells(t *testing.T) {
	c := filled(t, 3, api.POldest, 40)
	for _, n := range []int{38, 39, 40} {
		wantTake(t, c, result{v: num(n), done: true})
	}
	if c.buffer.cells != (ring{}).cells {
		t.Errorf("the buffer is %v", c.buffer)
	}
}
