package clock

import (
	"math/rand/v2"
	"slices"
	"testing"

	"seedbed/api"
)

// plain is a clock whose timers stand in a list, in the order in which they were armed.
type plain struct {
	now, made int
	timers    []api.Timer
}

func (p *plain) arm(at int) (int, api.Errno) {
	switch {
	case at < p.now || at > api.MaxTime:
		return 0, api.ErrArg
	case len(p.timers) == api.MaxTimers:
		return 0, api.ErrFull
	}
	p.made++
	p.timers = append(p.timers, api.Timer{ID: p.made, At: at})
	return p.made, api.OK
}

func (p *plain) disarm(id int) api.Errno {
	for i, timer := range p.timers {
		if timer.ID == id {
			p.timers = slices.Delete(p.timers, i, i+1)
			return api.OK
		}
	}
	return api.ErrNone
}

// sorted is the order of timers: a stable sort keeps that of the numbers.
func (p *plain) sorted() []api.Timer {
	list := slices.Clone(p.timers)
	slices.SortStableFunc(list, func(t, u api.Timer) int { return t.At - u.At })
	return list
}

func (p *plain) advance(to int) ([]int, api.Errno) {
	if to < p.now || to > api.MaxTime {
		return nil, api.ErrArg
	}
	var fired []int
	for _, timer := range p.sorted() {
		if timer.At <= to {
			fired = append(fired, timer.ID)
		}
	}
	p.timers = slices.DeleteFunc(p.timers, func(t api.Timer) bool { return t.At <= to })
	p.now = to
	return fired, api.OK
}

func (p *plain) tick() ([]int, api.Errno) {
	if len(p.timers) == 0 {
		return nil, api.ErrNone
	}
	return p.advance(p.sorted()[0].At)
}

func (p *plain) copy() *plain {
	return &plain{p.now, p.made, slices.Clone(p.timers)}
}

// later makes a time that is mostly not before now: near, far, or around the change of a group of bits.
func later(r *rand.Rand, now int) int {
	switch r.IntN(8) {
	case 0:
		return now
	case 1:
		return now - 1 - r.IntN(3)
	case 2, 3, 4:
		return (now | (1<<(6*r.IntN(7)) - 1)) + r.IntN(3)
	}
	return now + r.IntN(1<<r.IntN(38))
}

// pair is a clock, and the plain one that should do the same.
type pair struct {
	c *Clock
	p *plain
}

func newPair() pair { return pair{New(), &plain{}} }

func (x pair) copy() pair { return pair{x.c.Copy(), x.p.copy()} }

// do does something to both, and checks that they do the same.
func (x pair) do(t *testing.T, r *rand.Rand) {
	t.Helper()
	check := func(what string, n int, got, want any, err, wantErr api.Errno) {
		t.Helper()
		if got != want || err != wantErr {
			t.Fatalf("%s(%d) at %d with %v: %v, %d, want %v, %d", what, n, x.p.now, x.p.timers, got, err, want, wantErr)
		}
	}
	switch r.IntN(12) {
	case 0, 1:
		id := r.IntN(x.p.made + 2)
		if len(x.p.timers) > 0 && r.IntN(3) > 0 {
			id = x.p.timers[r.IntN(len(x.p.timers))].ID
		}
		check("Disarm", id, nil, nil, x.c.Disarm(id), x.p.disarm(id))
	case 2:
		got, err := x.c.Tick()
		want, wantErr := x.p.tick()
		check("Tick", 0, slices.Equal(got, want), true, err, wantErr)
	case 3:
		to := later(r, x.p.now)
		got, err := x.c.Advance(to)
		want, wantErr := x.p.advance(to)
		check("Advance", to, slices.Equal(got, want), true, err, wantErr)
	default:
		at := later(r, x.p.now)
		if len(x.p.timers) > 0 && r.IntN(3) == 0 {
			at = x.p.timers[r.IntN(len(x.p.timers))].At
		}
		id, err := x.c.Arm(at)
		want, wantErr := x.p.arm(at)
		check("Arm", at, id, want, err, wantErr)
	}
	x.check(t)
}

// check checks that both look the same.
func (x pair) check(t *testing.T) {
	t.Helper()
	want := x.p.sorted()
	wantArmed(t, "a random clock", x.c, x.p.now, want...)
	wantWheel(t, x.c)
	if t.Failed() {
		t.FailNow()
	}
}

// wantWheel checks that timers stand in the level of the highest group of bits in which their time and now are not the same.
func wantWheel(t *testing.T, c *Clock) {
	t.Helper()
	for level := range c.wheel {
		for slot, list := range c.wheel[level] {
			for _, timer := range list {
				if timer.At>>(6*level)%64 != slot || timer.At>>(6*level+6) != c.now>>(6*level+6) || level > 0 && timer.At>>(6*level)%64 == c.now>>(6*level)%64 {
					t.Errorf("at %d %v stands in the slot %d of the level %d", c.now, timer, slot, level)
				}
			}
		}
	}
}

// rands makes sources of random numbers.
func rands(n uint64, visit func(r *rand.Rand)) {
	for seed := range n {
		visit(rand.New(rand.NewPCG(seed, 15)))
	}
}

// TestP151Random holds clocks against plain ones.
func TestP151Random(t *testing.T) {
	t.Parallel()
	rands(400, func(r *rand.Rand) {
		x := newPair()
		for range 10 + r.IntN(300) {
			x.do(t, r)
		}
	})
}

// TestP152Parts checks that it does not matter in how many parts time goes on.
func TestP152Parts(t *testing.T) {
	t.Parallel()
	parts := 0
	rands(1000, func(r *rand.Rand) {
		x := newPair()
		for range r.IntN(60) {
			x.do(t, r)
		}
		to := min(max(x.p.now, later(r, later(r, x.p.now))), api.MaxTime)
		whole, _ := x.c.Copy().Advance(to)
		var fired []int
		for x.c.Now() < to || r.IntN(2) == 0 {
			now := x.c.Now() + r.IntN(to-x.c.Now()+1)
			if r.IntN(3) == 0 {
				now = to
			}
			part, err := x.c.Advance(now)
			if err != api.OK {
				t.Fatalf("Advance(%d): %d", now, err)
			}
			if len(part) > 0 && now < to {
				parts++
			}
			fired = append(fired, part...)
		}
		last, _ := x.c.Advance(to)
		if fired = append(fired, last...); !slices.Equal(fired, whole) {
			t.Fatalf("%v fire in parts, %v at once", fired, whole)
		}
		x.p.advance(to)
		x.check(t)
	})
	if parts < 100 {
		t.Errorf("only %d parts", parts)
	}
}

// TestP153Disarmed checks that timers that are disarmed again change nothing but the next number.
func TestP153Disarmed(t *testing.T) {
	t.Parallel()
	rands(500, func(r *rand.Rand) {
		x := newPair()
		for range r.IntN(100) {
			x.do(t, r)
		}
		var more []int
		for range r.IntN(20) {
			if id, err := x.c.Arm(later(r, x.p.now)); err == api.OK {
				more = append(more, id)
			}
		}
		r.Shuffle(len(more), func(i, j int) { more[i], more[j] = more[j], more[i] })
		for _, id := range more {
			if err := x.c.Disarm(id); err != api.OK {
				t.Fatalf("Disarm(%d): %d", id, err)
			}
		}
		x.p.made += len(more)
		x.check(t)
		for range 30 {
			x.do(t, r)
		}
	})
}

// TestP154Copies checks that copies go their own ways.
func TestP154Copies(t *testing.T) {
	t.Parallel()
	rands(200, func(r *rand.Rand) {
		list := []pair{newPair()}
		for range 200 {
			x := list[r.IntN(len(list))]
			if len(list) < 4 && r.IntN(20) == 0 {
				list = append(list, x.copy())
			}
			x.do(t, r)
			for _, y := range list {
				y.check(t)
			}
		}
	})
}

// TestP154Loop checks that a loop over a clock does not see what is done with a copy.
func TestP154Loop(t *testing.T) {
	c := armed(t, 9, 300, 10, 300)
	d := c.Copy()
	for range c.All() {
		arm(t, d, 300)
		if _, err := d.Advance(max(10, d.Now())); err != api.OK {
			t.Errorf("Advance: %d", err)
		}
		d.Disarm(3)
	}
	wantArmed(t, "the clock", c, 9, api.Timer{ID: 2, At: 10}, api.Timer{ID: 1, At: 300}, api.Timer{ID: 3, At: 300})
	wantArmed(t, "the copy", d, 10, api.Timer{ID: 1, At: 300}, api.Timer{ID: 4, At: 300}, api.Timer{ID: 5, At: 300}, api.Timer{ID: 6, At: 300})
}
