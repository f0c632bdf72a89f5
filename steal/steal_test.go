package steal

import (
	"math"
	"slices"
	"testing"

	"seedbed/api"
)

func newRace(t *testing.T, room int, owner, thieves []int) *Race {
	t.Helper()
	r, err := NewRace(room, owner, thieves)
	if r == nil || err != api.OK {
		t.Fatalf("NewRace(%d, %v, %v) = %v, %d", room, owner, thieves, r, err)
	}
	return r
}

// play lets actors make steps.
func play(t *testing.T, r *Race, actors ...int) {
	t.Helper()
	for i, a := range actors {
		if !r.Step(a) {
			t.Fatalf("Step(%d), number %d, = false", a, i)
		}
	}
}

func wantGot(t *testing.T, r *Race, actor int, want ...int) {
	t.Helper()
	if got := r.Got(actor); !slices.Equal(got, want) {
		t.Errorf("Got(%d) = %v, want %v", actor, got, want)
	}
}

func wantRest(t *testing.T, r *Race, want ...int) {
	t.Helper()
	if rest := r.Rest(); !slices.Equal(rest, want) {
		t.Errorf("Rest = %v, want %v", rest, want)
	}
}

func wantOver(t *testing.T, r *Race, want bool) {
	t.Helper()
	if r.Over() != want {
		t.Errorf("Over = %t", !want)
	}
}

// finish lets an actor make steps until it is done, and returns how many.
func finish(r *Race, actor int) int {
	n := 0
	for r.Step(actor) {
		n++
	}
	return n
}

// TestP231Examples checks the chapter's examples.
func TestP231Examples(t *testing.T) {
	r := newRace(t, 4, []int{5, 6, 0}, nil)
	if n := finish(r, 0); n != 8 {
		t.Errorf("%d steps", n)
	}
	wantGot(t, r, 0, 5, 6, 6)
	wantRest(t, r, 5)
	wantOver(t, r, true)
	r = newRace(t, 4, []int{9, 0}, []int{1})
	play(t, r, 0, 0, 0, 1, 1, 0, 0, 0, 1)
	q := r.Copy()
	play(t, r, 0, 1)
	wantGot(t, r, 0, 9, 9)
	wantGot(t, r, 1, -1)
	play(t, q, 1, 0)
	wantGot(t, q, 0, 9, 0)
	wantGot(t, q, 1, 9)
	for _, race := range []*Race{r, q} {
		wantRest(t, race)
		wantOver(t, race, true)
	}
	p := newPool(t, 2, nil, nil)
	for _, item := range []int{'a', 'b', 'c'} {
		wantPut(t, p, 1, item, api.OK)
	}
	wantNext(t, p, 2, 0, 'a', 1)
	wantQueue(t, p, 2, 'b')
	wantQueue(t, p, 1, 'c')
}

// TestP231NewRace checks the limits of races.
func TestP231NewRace(t *testing.T) {
	long, most := make([]int, api.MaxOps+1), slices.Repeat([]int{api.MaxOps}, api.MaxWorkers)
	for _, x := range []struct {
		room           int
		owner, thieves []int
		fits           bool
	}{
		{1, nil, nil, true}, {api.MaxRoom, []int{}, []int{}, true},
		{0, nil, nil, false}, {-1, nil, nil, false}, {api.MaxRoom + 1, nil, nil, false}, {math.MinInt, nil, nil, false}, {math.MaxInt, nil, nil, false},
		{1, long[1:], most, true}, {1, long, nil, false}, {1, nil, append(most, 0), false},
		{1, []int{0, 1000000}, nil, true}, {1, []int{0, 1000001}, nil, false}, {1, []int{-1}, nil, false}, {1, []int{math.MinInt}, nil, false},
		{1, nil, []int{0, api.MaxOps}, true}, {1, nil, []int{0, api.MaxOps + 1}, false}, {1, nil, []int{0, -1}, false}, {1, nil, []int{math.MaxInt}, false},
	} {
		r, err := NewRace(x.room, x.owner, x.thieves)
		if (r != nil) != x.fits || (err == api.OK) != x.fits || !x.fits && err != api.ErrArg {
			t.Errorf("NewRace(%d, %v, %v) = %v, %d", x.room, x.owner, x.thieves, r, err)
		}
	}
}

// TestP231Steps checks how many steps operations have, and what each step does.
func TestP231Steps(t *testing.T) {
	for _, x := range []struct {
		name           string
		room           int
		owner, thieves []int
		actors         []int
		got            [][]int
		rest           []int
		over           bool
	}{
		{"nothing to do", 1, nil, nil, nil, [][]int{nil}, nil, true},
		{"a push is in the deque with its third step", 1, []int{5}, nil, []int{0, 0}, [][]int{nil}, nil, false},
		{"after it", 1, []int{5}, nil, []int{0, 0, 0}, [][]int{{5}}, []int{5}, true},
		{"no room", 1, []int{5, 6}, nil, []int{0, 0, 0, 0}, [][]int{{5, -1}}, []int{5}, true},
		{"room for the last one", 2, []int{5, 6, 7}, nil, []int{0, 0, 0, 0, 0, 0, 0}, [][]int{{5, 6, -1}}, []int{5, 6}, true},
		{"top is read at once", 1, []int{5, 6}, []int{1}, []int{0, 0, 0, 1, 1, 1, 0, 1}, [][]int{{5, -1}, {5}}, nil, true},
		{"a theft makes room", 1, []int{5, 6}, []int{1}, []int{0, 0, 0, 1, 1, 1, 1, 0, 0, 0}, [][]int{{5, 6}, {5}}, []int{6}, true},
		{"take of nothing", 1, []int{0}, nil, []int{0, 0}, [][]int{{0}}, nil, true},
		{"it lowers bottom and raises it again", 1, []int{0, 5}, nil, []int{0, 0, 0, 0, 0}, [][]int{{0, 5}}, []int{5}, true},
		{"take of one of two", 2, []int{5, 6, 0}, nil, []int{0, 0, 0, 0, 0, 0, 0, 0}, [][]int{{5, 6, 6}}, []int{5}, true},
		{"bottom is lower after its first step", 2, []int{5, 6, 0}, nil, []int{0, 0, 0, 0, 0, 0, 0}, [][]int{{5, 6}}, []int{5}, false},
		{"take of the last one", 2, []int{5, 0}, nil, []int{0, 0, 0, 0, 0, 0}, [][]int{{5}}, nil, false},
		{"has four steps", 2, []int{5, 0}, nil, []int{0, 0, 0, 0, 0, 0, 0}, [][]int{{5, 5}}, nil, true},
		{"then one can push", 1, []int{5, 0, 6}, nil, []int{0, 0, 0, 0, 0, 0, 0, 0, 0, 0}, [][]int{{5, 5, 6}}, []int{6}, true},
		{"theft of nothing", 1, nil, []int{1}, []int{1, 1}, [][]int{nil, {0}}, nil, true},
		{"bottom is read with the second step", 1, []int{5}, []int{1}, []int{1, 0, 0, 0, 1, 1, 1}, [][]int{{5}, {5}}, nil, true},
		{"bottom that was lowered", 1, []int{5, 0}, []int{1}, []int{0, 0, 0, 0, 1, 1, 0, 0, 0}, [][]int{{5, 5}, {0}}, nil, true},
		{"two thieves, one number", 1, []int{5}, []int{1, 1}, []int{0, 0, 0, 1, 2, 1, 2, 1, 2, 2, 1}, [][]int{{5}, {-1}, {5}}, nil, true},
		{"two thieves, two numbers", 2, []int{5, 6}, []int{1, 1}, []int{0, 0, 0, 0, 0, 0, 1, 1, 1, 1, 2, 2, 2, 2}, [][]int{{5, 6}, {5}, {6}}, nil, true},
		{"a cell that was written again", 1, []int{5, 6}, []int{1, 1}, []int{0, 0, 0, 1, 1, 2, 2, 2, 2, 0, 0, 1, 0, 1}, [][]int{{5, 6}, {-1}, {5}}, []int{6}, true},
		{"top above bottom", 1, []int{5, 0}, []int{1}, []int{0, 0, 0, 1, 1, 1, 0, 1, 0}, [][]int{{5, 0}, {5}}, nil, true},
		{"places beyond the room", 2, []int{1, 2, 3}, []int{2}, []int{0, 0, 0, 1, 1, 1, 1, 0, 0, 0, 1, 1, 1, 1, 0, 0, 0}, [][]int{{1, 2, 3}, {1, 2}}, []int{3}, true},
	} {
		r := newRace(t, x.room, x.owner, x.thieves)
		play(t, r, x.actors...)
		for actor, got := range x.got {
			if !slices.Equal(r.Got(actor), got) {
				t.Errorf("%s: Got(%d) = %v, want %v", x.name, actor, r.Got(actor), got)
			}
		}
		if !slices.Equal(r.Rest(), x.rest) || r.Over() != x.over {
			t.Errorf("%s: Rest = %v, want %v, Over = %t", x.name, r.Rest(), x.rest, r.Over())
		}
	}
}

// TestP231Actors checks actors that there are not, and those that are done.
func TestP231Actors(t *testing.T) {
	r := newRace(t, 1, []int{5}, []int{0, 1})
	for _, actor := range []int{-1, 3, 1, math.MinInt, math.MaxInt} {
		if r.Step(actor) {
			t.Errorf("Step(%d) = true", actor)
		}
		wantGot(t, r, actor)
	}
	if n := finish(r, 0); n != 3 || r.Step(0) {
		t.Errorf("%d steps of a push", n)
	}
	wantOver(t, r, false)
	if n := finish(r, 2); n != 4 || r.Step(2) {
		t.Errorf("%d steps of a theft", n)
	}
	wantOver(t, r, true)
	wantGot(t, r, 0, 5)
	wantGot(t, r, 2, 5)
}

// TestP231Nil checks nil objects, and those that were not made by New.
func TestP231Nil(t *testing.T) {
	for _, r := range []*Race{nil, {}} {
		if r.Step(0) || r.Step(1) || !r.Over() || r.Got(0) != nil || r.Rest() != nil || (r.Copy() == nil) != (r == nil) {
			t.Errorf("race %v", r)
		}
	}
	for _, p := range []*Pool{nil, {}} {
		for _, worker := range []int{0, 1} {
			wantPut(t, p, worker, 1, api.ErrArg)
			wantNone(t, p, worker, 1)
			wantQueue(t, p, worker)
		}
		if (p.Copy() == nil) != (p == nil) {
			t.Errorf("pool %v", p)
		}
	}
}

// TestP231Copies checks that copies of races and pools go their own ways.
func TestP231Copies(t *testing.T) {
	r := newRace(t, 2, []int{1, 0, 2, 3}, []int{2})
	play(t, r, 0, 0, 0, 1, 1)
	q := r.Copy()
	play(t, r, 1, 1, 0, 0, 0, 0, 0)
	wantGot(t, r, 0, 1, 0, 2)
	wantGot(t, r, 1, 1)
	wantRest(t, r, 2)
	wantGot(t, q, 0, 1)
	wantGot(t, q, 1)
	wantRest(t, q, 1)
	play(t, q, 0, 0, 0, 0, 1, 1, 0, 0, 0)
	wantGot(t, q, 0, 1, 1, 2)
	wantGot(t, q, 1, -1)
	wantRest(t, q, 2)
	wantRest(t, r, 2)
	finish(q, 0)
	wantRest(t, q, 2, 3)
	wantRest(t, r, 2)
	wantGot(t, r, 0, 1, 0, 2)

	// The fourth results of both have memory of their own, though the first three were the same ones.
	r = newRace(t, 1, []int{5}, []int{4})
	play(t, r, 1, 1, 1, 1, 1, 1)
	q = r.Copy()
	play(t, r, 0, 0, 0, 1, 1, 1, 1)
	play(t, q, 1, 1)
	wantGot(t, r, 1, 0, 0, 0, 5)
	wantGot(t, q, 1, 0, 0, 0, 0)

	p := newPool(t, 2, []int{1, 2, 3}, nil)
	c := p.Copy()
	wantNext(t, p, 2, 0, 1, 1)
	wantPut(t, p, 1, 4, api.OK)
	wantPut(t, c, 1, 5, api.OK)
	wantQueue(t, p, 1, 3, 4)
	wantQueue(t, p, 2, 2)
	wantQueue(t, c, 1, 1, 2, 3, 5)
	wantQueue(t, c, 2)
}

// TestP231Memory checks that results and arguments are not kept.
func TestP231Memory(t *testing.T) {
	owner, thieves := []int{1, 2}, []int{1}
	r := newRace(t, 2, owner, thieves)
	owner[0], owner[1], thieves[0] = 0, 0, 0
	finish(r, 0)
	clear(r.Got(0))
	clear(r.Rest())
	wantGot(t, r, 0, 1, 2)
	wantRest(t, r, 1, 2)
	if n := finish(r, 1); n != 4 {
		t.Errorf("%d steps", n)
	}
	p := newPool(t, 1, []int{1, 2})
	clear(p.Queue(1))
	wantQueue(t, p, 1, 1, 2)
}

// newPool returns a pool with items in the queues of its workers.
func newPool(t *testing.T, workers int, queues ...[]int) *Pool {
	t.Helper()
	p, err := NewPool(workers)
	if p == nil || err != api.OK {
		t.Fatalf("NewPool(%d) = %v, %d", workers, p, err)
	}
	for i, queue := range queues {
		for _, item := range queue {
			wantPut(t, p, i+1, item, api.OK)
		}
	}
	return p
}

func wantPut(t *testing.T, p *Pool, worker, item int, want api.Errno) {
	t.Helper()
	if err := p.Put(worker, item); err != want {
		t.Errorf("Put(%d, %d) = %d, want %d", worker, item, err, want)
	}
}

func wantNext(t *testing.T, p *Pool, worker, seed, item, whose int) {
	t.Helper()
	if i, w, ok := p.Next(worker, seed); i != item || w != whose || !ok {
		t.Errorf("Next(%d, %d) = %d, %d, %t, want %d, %d", worker, seed, i, w, ok, item, whose)
	}
}

func wantNone(t *testing.T, p *Pool, worker, seed int) {
	t.Helper()
	if i, w, ok := p.Next(worker, seed); i != 0 || w != 0 || ok {
		t.Errorf("Next(%d, %d) = %d, %d, %t", worker, seed, i, w, ok)
	}
}

func wantQueue(t *testing.T, p *Pool, worker int, want ...int) {
	t.Helper()
	if queue := p.Queue(worker); !slices.Equal(queue, want) {
		t.Errorf("Queue(%d) = %v, want %v", worker, queue, want)
	}
}

// TestP231NewPool checks the limits of pools, and workers that there are not.
func TestP231NewPool(t *testing.T) {
	for _, n := range []int{0, -1, api.MaxWorkers + 1, math.MinInt, math.MaxInt} {
		if p, err := NewPool(n); p != nil || err != api.ErrArg {
			t.Errorf("NewPool(%d) = %v, %d", n, p, err)
		}
	}
	for n := 1; n <= api.MaxWorkers; n++ {
		p := newPool(t, n, []int{7})
		for _, worker := range []int{0, -1, n + 1, math.MinInt, math.MaxInt} {
			wantPut(t, p, worker, 1, api.ErrArg)
			wantNone(t, p, worker, 0)
			wantQueue(t, p, worker)
		}
		wantNext(t, p, n, 0, 7, 1)
		wantNone(t, p, n, 0)
	}
}

// TestP231Next checks whose items a worker gets.
func TestP231Next(t *testing.T) {
	full := [][]int{{11, 12, 13, 14, 15}, {21}, {31, 32}, {41, 42, 43}}
	for _, x := range []struct {
		worker, seed, item, whose int
	}{
		{2, 0, 31, 3}, {2, 1, 41, 4}, {2, 2, 11, 1}, {2, 3, 31, 3}, {2, -1, 11, 1}, {2, -2, 41, 4}, {2, -3, 31, 3},
		{2, math.MaxInt, 41, 4}, {2, math.MinInt, 41, 4}, {2, math.MaxInt - 1, 31, 3}, {2, math.MinInt + 1, 11, 1},
		{4, 0, 11, 1}, {4, 1, 0, 0}, {4, 2, 31, 3}, {1, 0, 0, 0}, {1, 1, 31, 3}, {1, 2, 41, 4},
	} {
		queues := slices.Clone(full)
		queues[x.worker-1] = nil
		if x.whose == 0 { // this one is passed over
			queues[1], x.item, x.whose = nil, 31, 3
		}
		p := newPool(t, 4, queues...)
		wantNext(t, p, x.worker, x.seed, x.item, x.whose)
		from := full[x.whose-1]
		half := (len(from) + 1) / 2
		wantQueue(t, p, x.worker, from[1:half]...)
		wantQueue(t, p, x.whose, from[half:]...)
	}
	p := newPool(t, 2, []int{5, 5, -6}, []int{7})
	for _, item := range []int{5, 5, -6} {
		wantNext(t, p, 1, 1, item, 1)
	}
	wantQueue(t, p, 2, 7)
	wantNext(t, p, 1, 0, 7, 2)
	wantNone(t, p, 1, 0)
	wantNone(t, p, 2, 0)
}
