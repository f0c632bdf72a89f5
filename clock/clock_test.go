package clock

import (
	"math"
	"slices"
	"testing"

	"seedbed/api"
)

// armed makes a clock at a time with timers for times.
func armed(t *testing.T, now int, times ...int) *Clock {
	t.Helper()
	c := New()
	if fired, err := c.Advance(now); len(fired) > 0 || err != api.OK {
		t.Fatalf("Advance(%d) = %v, %d", now, fired, err)
	}
	arm(t, c, times...)
	return c
}

// arm arms timers for times.
func arm(t *testing.T, c *Clock, times ...int) {
	t.Helper()
	for _, at := range times {
		if id, err := c.Arm(at); id < 1 || err != api.OK {
			t.Fatalf("Arm(%d) = %d, %d", at, id, err)
		}
	}
}

// wantArmed checks what one can see of a clock.
func wantArmed(t *testing.T, what string, c *Clock, now int, want ...api.Timer) {
	t.Helper()
	if got := slices.Collect(c.All()); c.Now() != now || !slices.Equal(got, want) {
		t.Errorf("%s: %v at %d, want %v at %d", what, got, c.Now(), want, now)
	}
	next, ok := c.Next()
	if len(want) == 0 && (next != 0 || ok) || len(want) > 0 && (next != want[0].At || !ok) {
		t.Errorf("%s: Next = %d, %t, want the first of %v", what, next, ok, want)
	}
}

// wantAdvance checks which timers fire.
func wantAdvance(t *testing.T, c *Clock, to int, want ...int) {
	t.Helper()
	from := c.Now()
	if fired, err := c.Advance(to); !slices.Equal(fired, want) || err != api.OK || c.Now() != to {
		t.Errorf("Advance(%d) from %d = %v, %d, now %d, want %v", to, from, fired, err, c.Now(), want)
	}
}

// wantTick checks which timers fire, and when.
func wantTick(t *testing.T, c *Clock, at int, want ...int) {
	t.Helper()
	if fired, err := c.Tick(); !slices.Equal(fired, want) || err != api.OK || c.Now() != at {
		t.Errorf("Tick = %v, %d, now %d, want %v at %d", fired, err, c.Now(), want, at)
	}
}

// TestP151Examples checks the chapter's examples.
func TestP151Examples(t *testing.T) {
	c := New()
	wantArmed(t, "a new clock", c, 0)
	for i, at := range []int{5, 3, 5} {
		if id, err := c.Arm(at); id != i+1 || err != api.OK {
			t.Errorf("Arm(%d) = %d, %d, want %d", at, id, err, i+1)
		}
	}
	wantArmed(t, "three timers", c, 0, api.Timer{ID: 2, At: 3}, api.Timer{ID: 1, At: 5}, api.Timer{ID: 3, At: 5})
	wantAdvance(t, c, 4, 2)
	wantTick(t, c, 5, 1, 3)
	wantArmed(t, "all have fired", c, 5)

	c = New()
	arm(t, c, 0)
	wantArmed(t, "for now", c, 0, api.Timer{ID: 1})
	wantAdvance(t, c, 0, 1)
	wantAdvance(t, c, 0)

	c = armed(t, 0, 7)
	for _, want := range []api.Errno{api.OK, api.ErrNone} {
		if err := c.Disarm(1); err != want {
			t.Errorf("Disarm(1) = %d, want %d", err, want)
		}
	}
	wantArmed(t, "disarmed", c, 0)
}

// TestP151Nil checks what a nil clock does.
func TestP151Nil(t *testing.T) {
	var c *Clock
	wantArmed(t, "nil", c, 0)
	for _, n := range []int{0, 1, -1, math.MaxInt, math.MinInt} {
		if id, err := c.Arm(n); id != 0 || err != api.ErrArg {
			t.Errorf("Arm(%d) = %d, %d", n, id, err)
		}
		if err := c.Disarm(n); err != api.ErrArg {
			t.Errorf("Disarm(%d) = %d", n, err)
		}
		if fired, err := c.Advance(n); fired != nil || err != api.ErrArg {
			t.Errorf("Advance(%d) = %v, %d", n, fired, err)
		}
	}
	if fired, err := c.Tick(); fired != nil || err != api.ErrArg {
		t.Errorf("Tick = %v, %d", fired, err)
	}
	if d := c.Copy(); d != nil {
		t.Errorf("Copy = %v", d)
	}
}

// TestP151Times checks which times there are, and that what is refused has no effect.
func TestP151Times(t *testing.T) {
	for _, now := range []int{0, 1, 63, 64, 1000, api.MaxTime - 1, api.MaxTime} {
		c := armed(t, now, api.MaxTime, now)
		want := []api.Timer{{ID: 2, At: now}, {ID: 1, At: api.MaxTime}}
		slices.SortFunc(want, inOrder)
		for _, at := range []int{now - 1, -1, -now - 1, api.MaxTime + 1, math.MaxInt, math.MinInt, 1 << 42, now + 1<<42} {
			if id, err := c.Arm(at); id != 0 || err != api.ErrArg {
				t.Errorf("Arm(%d) at %d = %d, %d", at, now, id, err)
			}
			if fired, err := c.Advance(at); fired != nil || err != api.ErrArg {
				t.Errorf("Advance(%d) at %d = %v, %d", at, now, fired, err)
			}
			wantArmed(t, "after errors", c, now, want...)
		}
		if id, err := c.Arm(api.MaxTime); id != 3 || err != api.OK {
			t.Errorf("Arm after errors = %d, %d", id, err)
		}
		if now == api.MaxTime {
			wantAdvance(t, c, now, 1, 2, 3)
		} else {
			wantAdvance(t, c, now, 2)
			wantAdvance(t, c, api.MaxTime-1)
			wantAdvance(t, c, api.MaxTime, 1, 3)
		}
		if fired, err := c.Tick(); fired != nil || err != api.ErrNone {
			t.Errorf("Tick without timers = %v, %d", fired, err)
		}
		wantArmed(t, "the end of time", c, api.MaxTime)
	}
}

// TestP151Full checks how many timers can be armed, and that ErrArg comes before ErrFull.
func TestP151Full(t *testing.T) {
	c := New()
	for n := range api.MaxTimers {
		arm(t, c, n/2)
	}
	wantFull := func() {
		t.Helper()
		if id, err := c.Arm(300); id != 0 || err != api.ErrFull {
			t.Errorf("Arm = %d, %d, want ErrFull", id, err)
		}
		if id, err := c.Arm(-1); id != 0 || err != api.ErrArg {
			t.Errorf("Arm(-1) = %d, %d, want ErrArg", id, err)
		}
	}
	wantArm := func(want int) {
		t.Helper()
		if id, err := c.Arm(300); id != want || err != api.OK {
			t.Errorf("Arm = %d, %d, want %d", id, err, want)
		}
	}
	wantFull()
	if err := c.Disarm(7); err != api.OK {
		t.Errorf("Disarm(7) = %d", err)
	}
	wantArm(api.MaxTimers + 1)
	wantFull()
	wantAdvance(t, c, 1, 1, 2, 3, 4)
	for n := range 4 {
		wantArm(api.MaxTimers + 2 + n)
	}
	wantFull()
	wantTick(t, c, 2, 5, 6)
	wantArm(api.MaxTimers + 6)
	wantArm(api.MaxTimers + 7)
	wantFull()
	if n := len(slices.Collect(c.All())); n != api.MaxTimers {
		t.Errorf("%d timers are armed", n)
	}
}

// TestP151Disarm checks that only timers that are armed are disarmed.
func TestP151Disarm(t *testing.T) {
	c := armed(t, 100, 100, 5000, 120, 5000, 5000)
	for _, id := range []int{0, -1, 6, 100, 5000, math.MaxInt, math.MinInt} {
		if err := c.Disarm(id); err != api.ErrNone {
			t.Errorf("Disarm(%d) = %d", id, err)
		}
	}
	wantAdvance(t, c, 110, 1)
	for id, want := range map[int]api.Errno{1: api.ErrNone, 4: api.OK} {
		if err := c.Disarm(id); err != want {
			t.Errorf("Disarm(%d) = %d, want %d", id, err, want)
		}
	}
	wantArmed(t, "some are left", c, 110, api.Timer{ID: 3, At: 120}, api.Timer{ID: 2, At: 5000}, api.Timer{ID: 5, At: 5000})
	if err := c.Disarm(3); err != api.OK {
		t.Errorf("Disarm(3) = %d", err)
	}
	if id, err := c.Arm(110); id != 6 || err != api.OK {
		t.Errorf("Arm = %d, %d: numbers are not used twice", id, err)
	}
	wantTick(t, c, 110, 6)
	wantTick(t, c, 5000, 2, 5)
}

// TestP151Groups checks timers around the times at which a group of bits of now changes.
func TestP151Groups(t *testing.T) {
	var times []int
	for level := range 7 {
		unit := 1 << (6 * level)
		for _, n := range []int{unit, 2 * unit, 63 * unit, 64 * unit} {
			times = append(times, n-1, n, n+1)
		}
	}
	times = slices.DeleteFunc(times, func(n int) bool { return n+2 > api.MaxTime })
	for _, now := range times {
		for _, at := range times {
			if at < now {
				continue
			}
			c := armed(t, now, at+1, at, at+2, at)
			wantArmed(t, "four timers", c, now, api.Timer{ID: 2, At: at}, api.Timer{ID: 4, At: at}, api.Timer{ID: 1, At: at + 1}, api.Timer{ID: 3, At: at + 2})
			if at > now {
				wantAdvance(t, c, at-1)
			}
			wantAdvance(t, c, at, 2, 4)
			arm(t, c, at+1)
			wantTick(t, c, at+1, 1, 5)
			wantAdvance(t, c, at+2, 3)
			wantAdvance(t, armed(t, now, at+1, at, at+2, at), at+1, 2, 4, 1)
		}
	}
}

// TestP151All checks that a loop visits what is armed when it begins, may be left, and can be run again.
func TestP151All(t *testing.T) {
	c := New()
	all := c.All()
	arm(t, c, 70, 5, 5000, 5)
	want := []api.Timer{{ID: 2, At: 5}, {ID: 4, At: 5}, {ID: 1, At: 70}, {ID: 3, At: 5000}}
	for most := range len(want) + 1 {
		var got []api.Timer
		for timer := range all {
			if len(got) == most {
				break
			}
			got = append(got, timer)
		}
		if !slices.Equal(got, want[:most]) {
			t.Errorf("the first %d: %v", most, got)
		}
	}
	var got []api.Timer
	for timer := range all {
		got = append(got, timer)
		if err := c.Disarm(1); len(got) == 1 && err != api.OK {
			t.Errorf("Disarm(1) = %d", err)
		}
		arm(t, c, 5, 6, 80)
		wantAdvance(t, c, c.Now())
		if inner := slices.Collect(all); len(inner) != 3+3*len(got) {
			t.Errorf("a loop within the loop: %v", inner)
		}
	}
	if !slices.Equal(got, want) {
		t.Errorf("while the clock is changed: %v", got)
	}
	got = nil
	for timer := range all {
		got = append(got, timer)
		if _, err := c.Advance(api.MaxTime); err != api.OK {
			t.Errorf("Advance: %d", err)
		}
	}
	if len(got) != 15 || !slices.IsSortedFunc(got, inOrder) {
		t.Errorf("while all fire: %v", got)
	}
	wantArmed(t, "all have fired", c, api.MaxTime)
}

// TestP151Memory checks that results are new memory.
func TestP151Memory(t *testing.T) {
	c := armed(t, 0, 3, 3, 200, 200)
	fired, _ := c.Advance(3)
	fired[0] = 9
	arm(t, c, 4, 4)
	more, _ := c.Tick()
	if fired[1] = 8; !slices.Equal(more, []int{5, 6}) {
		t.Errorf("Tick = %v", more)
	}
	wantTick(t, c, 200, 3, 4)
}
