package lock

import (
	"math"
	"reflect"
	"slices"
	"testing"

	"seedbed/api"
)

func sameList[T any](a, b []T) bool { return len(a) == 0 && len(b) == 0 || reflect.DeepEqual(a, b) }

func sameState(s, u api.LockState) bool {
	return s.Permits == u.Permits && s.Free == u.Free && sameList(s.Holders, u.Holders) && sameList(s.Waiting, u.Waiting)
}

// newTable makes a table with locks of some permits.
func newTable(t *testing.T, permits ...int) *Table {
	t.Helper()
	table := New()
	for i, n := range permits {
		wantMake(t, table, n, i+1, api.OK)
	}
	return table
}

func wantMake(t *testing.T, table *Table, permits, want int, wantErr api.Errno) {
	t.Helper()
	if n, err := table.Make(permits); n != want || err != wantErr {
		t.Errorf("Make(%d) = %d, %d, want %d, %d", permits, n, err, want, wantErr)
	}
}

func wantHold(t *testing.T, table *Table, lock, party int, want bool) {
	t.Helper()
	if ok, err := table.Hold(lock, party); ok != want || err != api.OK {
		t.Errorf("Hold(%d, %d) = %t, %d, want %t", lock, party, ok, err, want)
	}
}

func wantFree(t *testing.T, table *Table, lock, party, want int) {
	t.Helper()
	if next, err := table.Free(lock, party); next != want || err != api.OK {
		t.Errorf("Free(%d, %d) = %d, %d, want %d", lock, party, next, err, want)
	}
}

func wantWithdraw(t *testing.T, table *Table, party int, want bool) {
	t.Helper()
	if was := table.Withdraw(party); was != want {
		t.Errorf("Withdraw(%d) = %t", party, was)
	}
}

// wantErrors checks an error of both Hold and Free.
func wantErrors(t *testing.T, table *Table, lock, party int, hold, free api.Errno) {
	t.Helper()
	if ok, err := table.Hold(lock, party); ok || err != hold {
		t.Errorf("Hold(%d, %d) = %t, %d, want %d", lock, party, ok, err, hold)
	}
	if next, err := table.Free(lock, party); next != 0 || err != free {
		t.Errorf("Free(%d, %d) = %d, %d, want %d", lock, party, next, err, free)
	}
}

func wantState(t *testing.T, table *Table, lock int, want api.LockState) {
	t.Helper()
	if s, err := table.State(lock); !sameState(s, want) || err != api.OK {
		t.Errorf("State(%d) = %+v, %d, want %+v", lock, s, err, want)
	}
}

func wantStuck(t *testing.T, table *Table, want ...int) {
	t.Helper()
	if list := table.Stuck(); !sameList(list, want) {
		t.Errorf("Stuck = %v, want %v", list, want)
	}
}

// TestP181Examples checks the chapter's examples.
func TestP181Examples(t *testing.T) {
	table := newTable(t, 1)
	wantHold(t, table, 1, 7, true)
	wantHold(t, table, 1, 8, false)
	wantFree(t, table, 1, 7, 8)
	table = newTable(t, 1, 1)
	wantHold(t, table, 1, 1, true)
	wantHold(t, table, 2, 2, true)
	wantHold(t, table, 2, 1, false)
	wantHold(t, table, 1, 2, false)
	wantHold(t, table, 1, 3, false)
	wantStuck(t, table, 1, 2, 3)
	wantWithdraw(t, table, 1, true)
	wantStuck(t, table)
	table = newTable(t, 1)
	wantHold(t, table, 1, 7, true)
	wantHold(t, table, 1, 7, false)
	wantStuck(t, table, 7)
}

// TestP181Make checks the limits of locks and permits.
func TestP181Make(t *testing.T) {
	table := New()
	for _, n := range []int{0, -1, api.MaxPermits + 1, math.MinInt, math.MaxInt} {
		wantMake(t, table, n, 0, api.ErrArg)
	}
	for n := range api.MaxLocks {
		wantMake(t, table, api.MaxPermits-n, n+1, api.OK)
	}
	wantMake(t, table, 1, 0, api.ErrFull)
	wantMake(t, table, 0, 0, api.ErrArg)
	for n := range api.MaxLocks {
		wantState(t, table, n+1, api.LockState{Permits: api.MaxPermits - n, Free: api.MaxPermits - n})
	}
}

// TestP181Errors checks the errors of Hold, Free and State, and which of them come first.
func TestP181Errors(t *testing.T) {
	table := newTable(t, 1, 2)
	wantHold(t, table, 1, 5, true)
	wantHold(t, table, 1, 6, false)
	for _, party := range []int{0, -1, api.MaxParty + 1, math.MinInt, math.MaxInt} {
		wantErrors(t, table, 1, party, api.ErrArg, api.ErrArg)
		wantErrors(t, table, 3, party, api.ErrArg, api.ErrArg)
	}
	for _, lock := range []int{0, 3, -1, math.MinInt, math.MaxInt} {
		wantErrors(t, table, lock, 1, api.ErrNone, api.ErrNone)
		wantErrors(t, table, lock, 6, api.ErrNone, api.ErrNone)
		if s, err := table.State(lock); !sameState(s, api.LockState{}) || err != api.ErrNone {
			t.Errorf("State(%d) = %+v, %d", lock, s, err)
		}
	}
	wantErrors(t, table, 1, 6, api.ErrTwice, api.ErrNone)
	wantErrors(t, table, 2, 6, api.ErrTwice, api.ErrNone)
	if next, err := table.Free(2, 5); next != 0 || err != api.ErrNone {
		t.Errorf("Free = %d, %d", next, err)
	}
	wantState(t, table, 1, api.LockState{Permits: 1, Holders: []api.Holder{{Party: 5, N: 1}}, Waiting: []int{6}})
	wantState(t, table, 2, api.LockState{Permits: 2, Free: 2})
}

// TestP181Several checks locks of several permits, of which a party holds several.
func TestP181Several(t *testing.T) {
	table := newTable(t, 4)
	for _, party := range []int{9, 3, 9, api.MaxParty} {
		wantHold(t, table, 1, party, true)
	}
	for _, party := range []int{3, 2, 9, 4} {
		wantHold(t, table, 1, party, false)
	}
	holders := []api.Holder{{Party: 3, N: 1}, {Party: 9, N: 2}, {Party: api.MaxParty, N: 1}}
	wantState(t, table, 1, api.LockState{Permits: 4, Holders: holders, Waiting: []int{3, 2, 9, 4}})
	wantFree(t, table, 1, 9, 3)
	wantFree(t, table, 1, 3, 2)
	wantFree(t, table, 1, 9, 9)
	wantState(t, table, 1, api.LockState{Permits: 4, Holders: []api.Holder{{Party: 2, N: 1}, {Party: 3, N: 1}, {Party: 9, N: 1}, {Party: api.MaxParty, N: 1}}, Waiting: []int{4}})
	wantFree(t, table, 1, api.MaxParty, 4)
	wantFree(t, table, 1, 4, 0)
	wantFree(t, table, 1, 2, 0)
	wantState(t, table, 1, api.LockState{Permits: 4, Free: 2, Holders: []api.Holder{{Party: 3, N: 1}, {Party: 9, N: 1}}})
	wantErrors(t, table, 2, 4, api.ErrNone, api.ErrNone)
	wantFree(t, table, 1, 9, 0)
	if _, err := table.Free(1, 9); err != api.ErrNone {
		t.Errorf("Free of what is not held: %d", err)
	}
	wantHold(t, table, 1, 9, true)
}

// TestP181Itself checks that a party can get the permit that it frees while it waits.
func TestP181Itself(t *testing.T) {
	table := newTable(t, 1, 1)
	wantHold(t, table, 1, 7, true)
	wantHold(t, table, 1, 7, false)
	wantFree(t, table, 1, 7, 7)
	wantState(t, table, 1, api.LockState{Permits: 1, Holders: []api.Holder{{Party: 7, N: 1}}})
	wantHold(t, table, 2, 7, true)
	wantHold(t, table, 2, 7, false)
	wantFree(t, table, 1, 7, 0)
	wantState(t, table, 2, api.LockState{Permits: 1, Holders: []api.Holder{{Party: 7, N: 1}}, Waiting: []int{7}})
}

// TestP181Withdraw checks that only those that wait are withdrawn, wherever they stand, and that they keep what they hold.
func TestP181Withdraw(t *testing.T) {
	for _, gone := range []int{5, 3, 9, 7} {
		table := newTable(t, 2, 1)
		wantHold(t, table, 1, gone, true)
		wantHold(t, table, 2, gone, true)
		wantHold(t, table, 1, 1, true)
		var left []int
		for _, party := range []int{5, 3, 9, 7} {
			wantHold(t, table, 1, party, false)
			if party != gone {
				left = append(left, party)
			}
		}
		for _, party := range []int{0, 1, -5, 4, math.MaxInt, math.MinInt} {
			wantWithdraw(t, table, party, false)
		}
		wantWithdraw(t, table, gone, true)
		wantWithdraw(t, table, gone, false)
		holders := []api.Holder{{Party: 1, N: 1}, {Party: gone, N: 1}}
		wantState(t, table, 1, api.LockState{Permits: 2, Holders: holders, Waiting: left})
		wantState(t, table, 2, api.LockState{Permits: 1, Holders: holders[1:]})
		wantHold(t, table, 2, gone, false)
		wantFree(t, table, 1, 1, left[0])
		wantFree(t, table, 1, gone, left[1])
	}
}

// TestP181Stuck checks who is stuck, and that to ask for that changes nothing.
func TestP181Stuck(t *testing.T) {
	table := newTable(t, 1, 2, 1, 1)
	wantStuck(t, table)
	wantHold(t, table, 1, 1, true)
	wantHold(t, table, 2, 1, true)
	wantHold(t, table, 2, 2, true)
	wantHold(t, table, 1, 2, false)
	wantHold(t, table, 3, 3, true)
	wantStuck(t, table)
	wantHold(t, table, 2, 3, false)
	wantHold(t, table, 3, 1, false)
	wantStuck(t, table, 1, 2, 3)
	wantHold(t, table, 4, 8, true)
	wantHold(t, table, 4, 9, false)
	wantStuck(t, table, 1, 2, 3)
	wantHold(t, table, 2, 8, false)
	wantStuck(t, table, 1, 2, 3, 8, 9)
	wantState(t, table, 2, api.LockState{Permits: 2, Holders: []api.Holder{{Party: 1, N: 1}, {Party: 2, N: 1}}, Waiting: []int{3, 8}})
	wantFree(t, table, 2, 2, 3)
	wantStuck(t, table)
	wantWithdraw(t, table, 3, false)
	wantFree(t, table, 3, 3, 1)
	wantStuck(t, table)
}

// TestP181Chain checks that what those free who were freed counts, too: in a chain of all locks, and behind many others.
func TestP181Chain(t *testing.T) {
	table := New()
	for n := range api.MaxLocks {
		wantMake(t, table, 1, n+1, api.OK)
		wantHold(t, table, n+1, 100-n, true)
	}
	for n := range api.MaxLocks - 1 {
		wantHold(t, table, n+1, 100-n-1, false)
	}
	wantStuck(t, table)
	other := table.Copy()
	wantHold(t, other, api.MaxLocks, 100, false)
	var all []int
	for n := range api.MaxLocks {
		all = append(all, 100-api.MaxLocks+1+n)
	}
	wantStuck(t, other, all...)
	for n := range 3000 {
		wantHold(t, table, 3, 1000+n, false)
		wantHold(t, other, 3, 1000+n, false)
		all = append(all, 1000+n)
	}
	wantStuck(t, table)
	wantStuck(t, other, all...)
}

// TestP181Nil checks the results of no table, and that a table that was not made by New has the same state as one that was.
func TestP181Nil(t *testing.T) {
	var table *Table
	wantMake(t, table, 1, 0, api.ErrArg)
	wantErrors(t, table, 1, 1, api.ErrArg, api.ErrArg)
	wantWithdraw(t, table, 1, false)
	wantStuck(t, table)
	if s, err := table.State(1); !sameState(s, api.LockState{}) || err != api.ErrArg || table.Copy() != nil {
		t.Errorf("State = %+v, %d; Copy = %v", s, err, table.Copy())
	}
	table = &Table{}
	wantStuck(t, table)
	wantWithdraw(t, table, 1, false)
	wantMake(t, table, 1, 1, api.OK)
	wantHold(t, table.Copy(), 1, 1, true)
	wantHold(t, table, 1, 1, true)
	wantHold(t, table, 1, 2, false)
	wantFree(t, table, 1, 1, 2)
}

// TestP181Copies checks that what is done with a copy does not change the table, nor the other way round.
func TestP181Copies(t *testing.T) {
	table := newTable(t, 1, 2)
	wantHold(t, table, 1, 1, true)
	wantHold(t, table, 1, 2, false)
	wantHold(t, table, 1, 3, false)
	d := table.Copy()
	wantMake(t, d, 3, 3, api.OK)
	wantFree(t, d, 1, 1, 2)
	wantHold(t, d, 2, 1, true)
	before := api.LockState{Permits: 1, Holders: []api.Holder{{Party: 1, N: 1}}, Waiting: []int{2, 3}}
	wantState(t, table, 1, before)
	wantState(t, table, 2, api.LockState{Permits: 2, Free: 2})
	wantErrors(t, table, 3, 1, api.ErrNone, api.ErrNone)
	wantWithdraw(t, table, 2, true)
	wantHold(t, table, 1, 4, false)
	wantState(t, d, 1, api.LockState{Permits: 1, Holders: []api.Holder{{Party: 2, N: 1}}, Waiting: []int{3}})
	wantHold(t, d, 1, 5, false)
	wantState(t, table, 1, api.LockState{Permits: 1, Holders: before.Holders, Waiting: []int{3, 4}})
	wantState(t, d, 1, api.LockState{Permits: 1, Holders: []api.Holder{{Party: 2, N: 1}}, Waiting: []int{3, 5}})
	wantState(t, d, 2, api.LockState{Permits: 2, Free: 1, Holders: before.Holders})
}

// TestP181Memory checks that results are new memory.
func TestP181Memory(t *testing.T) {
	table := newTable(t, 1)
	wantHold(t, table, 1, 1, true)
	wantHold(t, table, 1, 1, false)
	wantHold(t, table, 1, 2, false)
	want := api.LockState{Permits: 1, Holders: []api.Holder{{Party: 1, N: 1}}, Waiting: []int{1, 2}}
	s, _ := table.State(1)
	s.Holders[0].N, s.Waiting[0] = 9, 9
	stuck := table.Stuck()
	stuck[0] = 9
	wantState(t, table, 1, want)
	s, _ = table.State(1)
	wantWithdraw(t, table, 1, true)
	wantHold(t, table, 1, 3, false)
	if !slices.Equal(s.Waiting, want.Waiting) {
		t.Errorf("the state has become %+v", s)
	}
}
