package ledger

import (
	"math"
	"reflect"
	"testing"

	"seedbed/api"
)

func sameList[T any](a, b []T) bool { return len(a) == 0 && len(b) == 0 || reflect.DeepEqual(a, b) }

// builder does with a ledger what must succeed, and checks what it returns.
type builder struct {
	*Ledger
	t *testing.T
}

func build(t *testing.T) builder { return builder{New(), t} }

// acquire acquires resources one after the other.
func (b builder) acquire(task int, whats ...int) {
	b.t.Helper()
	for _, what := range whats {
		if err := b.Acquire(task, what); err != api.OK {
			b.t.Errorf("Acquire(%d, %d) = %d", task, what, err)
		}
	}
}

func (b builder) release(task int, whats ...int) {
	b.t.Helper()
	for _, what := range whats {
		if err := b.Release(task, what); err != api.OK {
			b.t.Errorf("Release(%d, %d) = %d", task, what, err)
		}
	}
}

func (b builder) end(task int, want ...int) {
	b.t.Helper()
	if list, err := b.End(task); !sameList(list, want) || err != api.OK {
		b.t.Errorf("End(%d) = %v, %d, want %v", task, list, err, want)
	}
}

func (b builder) wantHeld(task int, want ...int) {
	b.t.Helper()
	if list, err := b.Held(task); !sameList(list, want) || err != api.OK {
		b.t.Errorf("Held(%d) = %v, %d, want %v", task, list, err, want)
	}
}

func (b builder) wantLog(want ...api.Entry) {
	b.t.Helper()
	if list := b.Log(); !sameList(list, want) {
		b.t.Errorf("Log() = %v, want %v", list, want)
	}
}

func (b builder) wantCrossed(want ...int) {
	b.t.Helper()
	if list := b.Crossed(); !sameList(list, want) {
		b.t.Errorf("Crossed() = %v, want %v", list, want)
	}
}

func (b builder) wantLeaks(want ...int) {
	b.t.Helper()
	if list := b.Leaks(); !sameList(list, want) {
		b.t.Errorf("Leaks() = %v, want %v", list, want)
	}
}

func (b builder) wantSound(want bool) {
	b.t.Helper()
	if b.Sound() != want {
		b.t.Errorf("Sound() = %v", !want)
	}
}

// wantRefused checks what acquiring and releasing return, and that it changes nothing.
func (b builder) wantRefused(task, what int, acquire, release api.Errno) {
	b.t.Helper()
	before := b.all()
	if err := b.Acquire(task, what); acquire != api.OK && err != acquire {
		b.t.Errorf("Acquire(%d, %d) = %d, want %d", task, what, err, acquire)
	}
	if err := b.Release(task, what); release != api.OK && err != release {
		b.t.Errorf("Release(%d, %d) = %d, want %d", task, what, err, release)
	}
	if after := b.all(); !reflect.DeepEqual(before, after) {
		b.t.Errorf("a call for %d, %d that failed has changed %+v to %+v", task, what, before, after)
	}
}

// state is all that a ledger tells.
type state struct {
	Log            []api.Entry
	Held           [api.MaxTasks + 1][]int
	Crossed, Leaks []int
	Sound          bool
}

func (b builder) all() state {
	s := state{Log: b.Log(), Crossed: b.Crossed(), Leaks: b.Leaks(), Sound: b.Sound()}
	for task := range s.Held {
		s.Held[task], _ = b.Held(task)
	}
	return s
}

func TestP211Examples(t *testing.T) {
	b := build(t)
	b.acquire(1, 7, 8)
	b.wantSound(false)
	b.release(1, 8, 7)
	b.wantLog(api.Entry{What: 7, Task: 1, From: 1, To: 4}, api.Entry{What: 8, Task: 1, From: 2, To: 3})
	b.wantSound(true)
	b = build(t)
	b.acquire(1, 7, 8)
	b.release(1, 7)
	b.wantCrossed(0)
	b = build(t)
	b.acquire(1, 7, 7)
	b.end(1, 7, 7)
	b.wantLeaks(0, 1)
	b.wantLog(api.Entry{What: 7, Task: 1, From: 1, To: 4}, api.Entry{What: 7, Task: 1, From: 2, To: 3})
}

func TestP211Empty(t *testing.T) {
	b := build(t)
	b.wantLog()
	b.wantCrossed()
	b.wantLeaks()
	b.wantSound(true)
	b.wantHeld(1)
	b.wantHeld(api.MaxTasks)
	b.end(1)
	b.wantLog()
	b.wantSound(true)
	b.acquire(api.MaxTasks, api.MaxWhat, 0)
	b.wantLog(api.Entry{What: api.MaxWhat, Task: api.MaxTasks, From: 1}, api.Entry{Task: api.MaxTasks, From: 2})
}

func TestP211Errors(t *testing.T) {
	b := build(t)
	b.acquire(1, 0, 5)
	for _, task := range []int{math.MinInt, -1, 0, api.MaxTasks + 1, math.MaxInt} {
		b.wantRefused(task, 0, api.ErrArg, api.ErrArg)
		if list, err := b.End(task); list != nil || err != api.ErrArg {
			t.Errorf("End(%d) = %v, %d", task, list, err)
		}
		if list, err := b.Held(task); list != nil || err != api.ErrArg {
			t.Errorf("Held(%d) = %v, %d", task, list, err)
		}
	}
	for _, what := range []int{math.MinInt, -1, 1000, math.MaxInt} {
		b.wantRefused(1, what, api.ErrArg, api.ErrArg)
	}
	for _, task := range []int{2, api.MaxTasks} {
		if err := b.Release(task, 0); err != api.ErrNone {
			t.Errorf("Release(%d, 0) = %d", task, err)
		}
	}
	if err := b.Release(1, 6); err != api.ErrNone {
		t.Errorf("Release(1, 6) = %d", err)
	}
	b.release(1, 5)
	if err := b.Release(1, 5); err != api.ErrNone {
		t.Errorf("Release(1, 5) = %d", err)
	}
	b.end(1, 0)
	if err := b.Release(1, 0); err != api.ErrNone {
		t.Errorf("Release(1, 0) = %d", err)
	}
}

// TestP211Held checks that a task can hold MaxHeld, not more, and that this does not depend on other tasks.
func TestP211Held(t *testing.T) {
	b := build(t)
	for what := range api.MaxHeld {
		b.acquire(1, what)
	}
	b.wantRefused(1, 900, api.ErrFull, api.ErrNone)
	b.wantRefused(1, -1, api.ErrArg, api.ErrArg)
	b.acquire(2, 900)
	b.release(1, 20)
	b.acquire(1, 900)
	b.wantRefused(1, 901, api.ErrFull, api.ErrNone)
	b.wantCrossed(20)
	var want []int
	for what := range api.MaxHeld {
		if what != 20 {
			want = append(want, what)
		}
	}
	b.wantHeld(1, append(want, 900)...)
}

// TestP211Entries checks that there can be MaxEntries, whether they are held or not.
func TestP211Entries(t *testing.T) {
	b := build(t)
	for i := range api.MaxEntries - 1 {
		b.acquire(1+i%3, i)
		if i%2 == 0 {
			b.release(1+i%3, i)
		} else if i%5 == 0 {
			b.end(1+i%3, i)
		} else {
			b.release(1+i%3, i)
		}
	}
	b.acquire(4, 1)
	b.wantRefused(4, 2, api.ErrFull, api.ErrNone)
	b.wantRefused(5, 2, api.ErrFull, api.ErrNone)
	b.wantRefused(0, 2, api.ErrArg, api.ErrArg)
	b.release(4, 1)
	b.wantRefused(4, 2, api.ErrFull, api.ErrNone)
	if log := b.Log(); len(log) != api.MaxEntries || log[399] != (api.Entry{What: 1, Task: 4, From: 799, To: 800}) {
		t.Errorf("Log: %d entries, %v", len(log), log[len(log)-1])
	}
}

// TestP211Last checks that the last entry of a task and a resource is released, not that of another task.
func TestP211Last(t *testing.T) {
	b := build(t)
	b.acquire(1, 7)
	b.acquire(2, 7)
	b.acquire(1, 7, 8)
	b.acquire(2, 8)
	b.release(1, 7)
	b.wantHeld(1, 7, 8)
	b.wantHeld(2, 7, 8)
	b.wantCrossed(2)
	b.release(1, 7)
	b.wantCrossed(0, 2)
	b.release(1, 8)
	b.wantCrossed(0, 2)
	b.end(2, 8, 7)
	b.wantLeaks(1, 4)
	b.wantSound(false)
	b.wantLog(
		api.Entry{What: 7, Task: 1, From: 1, To: 7}, api.Entry{What: 7, Task: 2, From: 2, To: 10},
		api.Entry{What: 7, Task: 1, From: 3, To: 6}, api.Entry{What: 8, Task: 1, From: 4, To: 8}, api.Entry{What: 8, Task: 2, From: 5, To: 9})
}

// TestP211Crossed checks that only later entries of the same task count that are held.
func TestP211Crossed(t *testing.T) {
	b := build(t)
	b.acquire(1, 1)
	b.acquire(2, 2)
	b.release(1, 1)
	b.release(2, 2)
	b.acquire(1, 3, 4)
	b.release(1, 4)
	b.acquire(1, 5)
	b.release(1, 5, 3)
	b.wantCrossed()
	b.wantSound(true)
	b.acquire(3, 6, 7, 8)
	b.release(3, 7)
	b.wantCrossed(6)
	b.release(3, 8, 6)
	b.wantCrossed(6)
	b.wantSound(false)
	b.acquire(4, 1, 2)
	b.release(4, 1)
	b.end(4, 2)
	b.wantCrossed(6, 8)
	b.wantLeaks(9)
}

// TestP211Sound checks each of the reasons for which a ledger is not sound.
func TestP211Sound(t *testing.T) {
	b := build(t)
	b.acquire(5, 1)
	b.wantSound(false)
	b.release(5, 1)
	b.wantSound(true)
	b.acquire(5, 1)
	b.end(5, 1)
	b.wantSound(false)
	b = build(t)
	b.acquire(5, 1, 2)
	b.release(5, 1, 2)
	b.wantSound(false)
}

// TestP211After checks that a task that has ended can acquire again, as a ledger does not know that it has ended.
func TestP211After(t *testing.T) {
	b := build(t)
	b.acquire(1, 1)
	b.end(1, 1)
	b.end(1)
	b.acquire(1, 1)
	b.wantHeld(1, 1)
	b.release(1, 1)
	b.wantLeaks(0)
	b.wantLog(api.Entry{What: 1, Task: 1, From: 1, To: 2}, api.Entry{What: 1, Task: 1, From: 3, To: 4})
}

func TestP211Nil(t *testing.T) {
	var l *Ledger
	if l.Acquire(1, 1) != api.ErrArg || l.Release(1, 1) != api.ErrArg {
		t.Error("a nil ledger acquires or releases")
	}
	if list, err := l.End(1); list != nil || err != api.ErrArg {
		t.Error("End of nil", list, err)
	}
	if list, err := l.Held(1); list != nil || err != api.ErrArg {
		t.Error("Held of nil", list, err)
	}
	if len(l.Log()) != 0 || len(l.Crossed()) != 0 || len(l.Leaks()) != 0 || l.Sound() || l.Copy() != nil {
		t.Error("nil is not an empty ledger that is not sound")
	}
	b := builder{&Ledger{}, t}
	b.acquire(1, 2)
	b.release(1, 2)
	b.wantSound(true)
}

func TestP211Copies(t *testing.T) {
	b := build(t)
	b.acquire(1, 1, 2, 3)
	b.release(1, 2)
	before := b.all()
	c := builder{b.Copy(), t}
	if !reflect.DeepEqual(c.all(), before) {
		t.Errorf("a copy is %+v, not %+v", c.all(), before)
	}
	c.acquire(1, 4)
	c.release(1, 1)
	c.end(1, 4, 3)
	c.acquire(1, 5)
	if !reflect.DeepEqual(b.all(), before) {
		t.Errorf("a copy has changed the ledger from %+v to %+v", before, b.all())
	}
	later := c.all()
	b.acquire(1, 6)
	b.end(1, 6, 3, 1)
	if !reflect.DeepEqual(c.all(), later) {
		t.Errorf("the ledger has changed a copy from %+v to %+v", later, c.all())
	}
	b.wantLog(
		api.Entry{What: 1, Task: 1, From: 1, To: 8}, api.Entry{What: 2, Task: 1, From: 2, To: 4},
		api.Entry{What: 3, Task: 1, From: 3, To: 7}, api.Entry{What: 6, Task: 1, From: 5, To: 6})
}

// TestP211Memory checks that results share no memory with the ledger.
func TestP211Memory(t *testing.T) {
	b := build(t)
	b.acquire(1, 1, 2, 3)
	b.release(1, 1)
	b.acquire(2, 4)
	b.end(2, 4)
	before := b.all()
	s := b.all()
	for i := range s.Log {
		s.Log[i] = api.Entry{What: 9, Task: 9, From: 9}
	}
	for _, list := range append(s.Held[:], s.Crossed, s.Leaks) {
		for i := range list {
			list[i] = 99
		}
		_ = append(list, 99)
	}
	if after := b.all(); !reflect.DeepEqual(before, after) {
		t.Errorf("what changed a result has changed the ledger from %+v to %+v", before, after)
	}
	b.acquire(1, 5)
	b.wantHeld(1, 2, 3, 5)
}
