package steal

import (
	"math/rand/v2"
	"slices"
	"strconv"
	"testing"
)

// machine is a second version of a race: all actors have a number of a line, and registers.
type machine struct {
	cells       []int
	top, bottom int
	actors      []worker
	claims      map[int]int // which actor has had the cell of a place as its last one, by the place
	stolen      []int
	lost        []miss
}

// miss is a theft that ended with -1: the top that it had read.
type miss struct{ actor, top int }

type worker struct {
	ops       []int // what the owner's list says; of a thief only their number counts
	line      int
	place, at int // the registers
	number    int
	results   []int
}

func newMachine(room int, owner, thieves []int) *machine {
	m := &machine{cells: make([]int, room), actors: []worker{{ops: owner}}, claims: map[int]int{}}
	for _, n := range thieves {
		m.actors = append(m.actors, worker{ops: make([]int, n)})
	}
	return m
}

func (m *machine) copy() *machine {
	c := *m
	c.cells, c.stolen, c.lost = slices.Clone(m.cells), slices.Clone(m.stolen), slices.Clone(m.lost)
	c.actors = slices.Clone(m.actors)
	for i := range c.actors {
		c.actors[i].results = slices.Clone(c.actors[i].results)
	}
	c.claims = map[int]int{}
	for place, actor := range m.claims {
		c.claims[place] = actor
	}
	return &c
}

func (w *worker) end(result int) {
	w.results, w.ops, w.line = append(w.results, result), w.ops[1:], 0
}

func (m *machine) step(actor int) bool {
	w := &m.actors[actor]
	if len(w.ops) == 0 {
		return false
	}
	w.line++
	switch {
	case actor > 0:
		m.steal(actor, w)
	case w.ops[0] == 0:
		m.take(w)
	default:
		m.push(w, w.ops[0])
	}
	return true
}

func (m *machine) push(w *worker, x int) {
	switch w.line {
	case 1:
		if m.bottom-m.top == len(m.cells) {
			w.end(-1)
		}
	case 2:
		m.cells[m.bottom%len(m.cells)] = x
	case 3:
		m.bottom++
		w.end(x)
	}
}

func (m *machine) take(w *worker) {
	switch w.line {
	case 1:
		m.bottom--
	case 2:
		w.at = m.top
		if w.at > m.bottom {
			m.bottom = w.at
			w.end(0)
		} else if w.at < m.bottom {
			w.end(m.cells[m.bottom%len(m.cells)])
		}
	case 3:
		w.number = m.cells[m.bottom%len(m.cells)]
	case 4:
		x := 0
		if m.top == w.at {
			m.claims[m.top] = 0
			m.top, x = m.top+1, w.number
		}
		m.bottom = w.at + 1
		w.end(x)
	}
}

func (m *machine) steal(actor int, w *worker) {
	switch w.line {
	case 1:
		w.at = m.top
	case 2:
		if w.at >= m.bottom {
			w.end(0)
		}
	case 3:
		w.number = m.cells[w.at%len(m.cells)]
	case 4:
		if m.top != w.at {
			m.lost = append(m.lost, miss{actor, w.at})
			w.end(-1)
			return
		}
		m.claims[m.top] = actor
		m.top++
		m.stolen = append(m.stolen, w.number)
		w.end(w.number)
	}
}

func (m *machine) over() bool {
	return !slices.ContainsFunc(m.actors, func(w worker) bool { return len(w.ops) > 0 })
}

func (m *machine) rest() []int {
	var list []int
	for i := m.top; i < m.bottom; i++ {
		list = append(list, m.cells[i%len(m.cells)])
	}
	return list
}

// key is all that later steps and checks depend on.
func (m *machine) key() string {
	text := ""
	add := func(list ...int) {
		for _, n := range list {
			text += strconv.Itoa(n) + " "
		}
		text += "; "
	}
	add(append([]int{m.top, m.bottom}, m.cells...)...)
	add(m.stolen...)
	for _, w := range m.actors {
		add(len(w.ops), w.line, w.at, w.number)
		add(w.results...)
	}
	return text
}

// check holds a race against the machine, and against P23.2 to P23.4.
func check(t *testing.T, r *Race, m *machine, owner []int) {
	t.Helper()
	for i, w := range m.actors {
		if !slices.Equal(r.Got(i), w.results) {
			t.Fatalf("Got(%d) = %v, want %v", i, r.Got(i), w.results)
		}
	}
	if !slices.Equal(r.Rest(), m.rest()) || r.Over() != m.over() {
		t.Fatalf("Rest = %v, want %v, Over = %t", r.Rest(), m.rest(), r.Over())
	}
	for _, lost := range m.lost {
		if actor, had := m.claims[lost.top]; !had || actor == lost.actor {
			t.Fatalf("nobody else has had the cell of %d", lost.top)
		}
	}
	if r.Over() {
		checkOnce(t, r, m, owner)
	}
}

// checkOnce checks P23.2 and the first half of P23.3.
func checkOnce(t *testing.T, r *Race, m *machine, owner []int) {
	t.Helper()
	var pushed []int
	had := r.Rest()
	for i, x := range r.Got(0) {
		if x > 0 && owner[i] > 0 {
			pushed = append(pushed, x)
		} else if x > 0 {
			had = append(had, x)
		}
	}
	later := pushed
	for _, x := range m.stolen {
		at := slices.Index(later, x)
		if at < 0 {
			t.Fatalf("%v was pushed, and stolen in the order %v", pushed, m.stolen)
		}
		later = later[at+1:]
	}
	for i := 1; i < len(m.actors); i++ {
		for _, x := range r.Got(i) {
			if x > 0 {
				had = append(had, x)
			}
		}
	}
	slices.Sort(had)
	slices.Sort(pushed)
	if !slices.Equal(had, pushed) {
		t.Fatalf("%v were pushed, %v came out", pushed, had)
	}
}

// TestP232AllOrders plays small races in all orders of steps.
func TestP232AllOrders(t *testing.T) {
	for _, x := range []struct {
		room           int
		owner, thieves []int
	}{
		{1, []int{1, 0}, []int{1, 1}},
		{1, []int{1, 0, 2, 0}, []int{1, 1}},
		{2, []int{1, 2, 0, 0}, []int{1, 1}},
		{1, []int{1, 2, 0, 3}, []int{2}},
		{2, []int{1, 2, 3, 0, 0}, []int{2, 1}},
		{3, []int{1, 2, 0, 3}, []int{1, 1, 1}},
		{2, []int{0, 1, 0, 2, 0}, []int{2, 1}},
	} {
		seen := map[string]bool{}
		var visit func(r *Race, m *machine)
		visit = func(r *Race, m *machine) {
			key := m.key()
			if seen[key] {
				return
			}
			seen[key] = true
			check(t, r, m, x.owner)
			for actor := range m.actors {
				s, n := r.Copy(), m.copy()
				if ok, want := s.Step(actor), n.step(actor); ok != want {
					t.Fatalf("Step(%d) = %t", actor, ok)
				} else if ok {
					visit(s, n)
				}
			}
		}
		visit(newRace(t, x.room, x.owner, x.thieves), newMachine(x.room, x.owner, x.thieves))
		if len(seen) < 100 {
			t.Errorf("%v %v: only %d states", x.owner, x.thieves, len(seen))
		}
	}
}

// TestP232Random plays long races in random orders; numbers are pushed several times.
func TestP232Random(t *testing.T) {
	rng := rand.New(rand.NewPCG(23, 1))
	for range 300 {
		var owner, thieves []int
		for range rng.IntN(61) {
			owner = append(owner, rng.IntN(6)*rng.IntN(3))
		}
		for range rng.IntN(9) {
			thieves = append(thieves, rng.IntN(61))
		}
		room := 1 + rng.IntN(16)
		r, m := newRace(t, room, owner, thieves), newMachine(room, owner, thieves)
		turns := 1 + rng.IntN(5)
		for !m.over() {
			actor := rng.IntN(len(m.actors))
			for range 1 + rng.IntN(turns) {
				if ok, want := r.Step(actor), m.step(actor); ok != want {
					t.Fatalf("Step(%d) = %t", actor, ok)
				}
			}
			check(t, r, m, owner)
		}
	}
}

// TestP233Stack checks that an owner whom nobody steals from has a stack.
func TestP233Stack(t *testing.T) {
	rng := rand.New(rand.NewPCG(23, 2))
	for range 300 {
		room := 1 + rng.IntN(16)
		var owner, stack, want []int
		for i := range rng.IntN(61) {
			x := (i + 1) * rng.IntN(2)
			owner = append(owner, x)
			switch {
			case x > 0 && len(stack) == room:
				x = -1
			case x > 0:
				stack = append(stack, x)
			case len(stack) > 0:
				x = stack[len(stack)-1]
				stack = stack[:len(stack)-1]
			}
			want = append(want, x)
		}
		r := newRace(t, room, owner, nil)
		finish(r, 0)
		wantGot(t, r, 0, want...)
		wantRest(t, r, stack...)
	}
}

// TestP235 holds pools against one list of all items, each of which knows whose it is.
func TestP235(t *testing.T) {
	type entry struct{ item, worker int }
	rng := rand.New(rand.NewPCG(23, 3))
	for range 200 {
		workers := 1 + rng.IntN(8)
		p := newPool(t, workers)
		var all []entry
		of := func(worker int) []int {
			var list []int
			for _, e := range all {
				if e.worker == worker {
					list = append(list, e.item)
				}
			}
			return list
		}
		for i := range 200 {
			worker := 1 + rng.IntN(workers)
			if rng.IntN(5) < 2 {
				wantPut(t, p, worker, i, 0)
				all = append(all, entry{i, worker})
				continue
			}
			seed := rng.IntN(40) - 20
			whose := worker
			for k := 0; len(of(whose)) == 0 && k < workers-1; k++ {
				// The others stand in a list, and the seed says where in it one begins.
				var others []int
				for o := 1; o < workers; o++ {
					others = append(others, (worker+o-1)%workers+1)
				}
				whose = others[((seed+k)%len(others)+len(others))%len(others)]
			}
			list := of(whose)
			if len(list) == 0 {
				wantNone(t, p, worker, seed)
				continue
			}
			wantNext(t, p, worker, seed, list[0], whose)
			if whose != worker {
				half := list[:(len(list)+1)/2]
				for at, e := range all {
					if slices.Contains(half, e.item) {
						all[at].worker = worker
					}
				}
			}
			all = slices.DeleteFunc(all, func(e entry) bool { return e.item == list[0] })
			for w := 1; w <= workers; w++ {
				wantQueue(t, p, w, of(w)...)
			}
			if t.Failed() {
				return
			}
		}
	}
}
