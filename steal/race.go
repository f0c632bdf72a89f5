package steal

import "slices"

// nothing and inVain are the results of operations that end without a number.
const (
	nothing = 0  // there is none to have
	inVain  = -1 // there is no room, or another one was faster
)

// step is what an actor does next: a function that returns its next step as a function, or nil, and the result, if its operation has ended. What an actor remembers of its earlier steps is what the function has captured; as this never changes, copies of a race share it.
type step func(d *deque) (next step, result int)

// operation is what an actor has to do.
type operation interface{ first() step }

// actor does its operations one after the other.
type actor struct {
	todo []operation // those that have not begun
	next step        // nil between two operations
	got  []int
}

func newOwner(list []int) actor {
	var a actor
	for _, n := range list {
		if n == 0 {
			a.todo = append(a.todo, take{})
		} else {
			a.todo = append(a.todo, push(n))
		}
	}
	return a
}

func newThief(n int) actor { return actor{todo: slices.Repeat([]operation{theft{}}, n)} }

func (a *actor) isDone() bool { return a.next == nil && len(a.todo) == 0 }

// step makes the next step. It returns false if there is none.
func (a *actor) step(d *deque) bool {
	if a.isDone() {
		return false
	}
	if a.next == nil {
		a.next, a.todo = a.todo[0].first(), a.todo[1:]
	}
	next, result := a.next(d)
	a.next = next
	if next == nil {
		a.got = append(a.got, result)
	}
	return true
}

// deque is what the actors share. Only the owner writes bottom; top never becomes less.
type deque struct {
	cells       []int
	top, bottom int
}

// cell returns the cell of a place that is not below 0.
func (d *deque) cell(place int) *int { return &d.cells[place%len(d.cells)] }

// claim takes the cell of top, if that is still t.
func (d *deque) claim(t int) bool {
	if d.top != t {
		return false
	}
	d.top = t + 1
	return true
}

// push is the push of a number.
type push int

func (x push) first() step { return x.look }

func (x push) look(d *deque) (step, int) {
	if d.bottom-d.top == len(d.cells) {
		return nil, inVain
	}
	return x.write, 0
}

func (x push) write(d *deque) (step, int) {
	*d.cell(d.bottom) = int(x)
	return x.raise, 0
}

func (x push) raise(d *deque) (step, int) {
	d.bottom++
	return nil, int(x)
}

// take is the owner's way to get a number.
type take struct{}

func (take) first() step { return (*deque).lower }

func (d *deque) lower() (step, int) {
	d.bottom--
	return (*deque).compare, 0
}

func (d *deque) compare() (step, int) {
	t := d.top
	switch {
	case t > d.bottom:
		d.bottom = t
		return nil, nothing
	case t < d.bottom:
		return nil, *d.cell(d.bottom)
	}
	return (*deque).readLast, 0
}

// readLast reads the only number that is left. Since bottom has not changed since it was compared with top, it is still the place that top was.
func (d *deque) readLast() (step, int) {
	t, x := d.bottom, *d.cell(d.bottom)
	return func(d *deque) (step, int) {
		won := d.claim(t)
		d.bottom = t + 1
		if !won {
			return nil, nothing
		}
		return nil, x
	}, 0
}

// theft is a thief's way to get a number.
type theft struct{}

func (theft) first() step { return (*deque).aim }

func (d *deque) aim() (step, int) {
	t := d.top
	return func(d *deque) (step, int) {
		if t >= d.bottom {
			return nil, nothing
		}
		return reach(t), 0
	}, 0
}

// reach reads the number at a place, and then claims it.
func reach(t int) step {
	return func(d *deque) (step, int) {
		x := *d.cell(t)
		return func(d *deque) (step, int) {
			if !d.claim(t) {
				return nil, inVain
			}
			return nil, x
		}, 0
	}
}
