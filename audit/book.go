package audit

import (
	"math"
	"slices"

	"seedbed/api"
)

// book has what the events so far tell.
type book struct {
	now    int // the time of the last event
	tasks  map[int]*task
	scopes map[int]*scope
}

type task struct {
	begun, ended, waits bool
	scope               int // in which it began
	links               []api.Link
	held                []int
}

type scope struct {
	known, open bool // known: it was opened once
	owner       int
	running     int // how many tasks have begun in it, and not ended
}

func newBook() book {
	return book{now: math.MinInt, tasks: map[int]*task{}, scopes: map[int]*scope{}}
}

// task returns what is known of a task; nothing, if no event tells of it yet.
func (b *book) task(n int) *task {
	if b.tasks[n] == nil {
		b.tasks[n] = &task{}
	}
	return b.tasks[n]
}

func (b *book) scope(n int) *scope {
	if b.scopes[n] == nil {
		b.scopes[n] = &scope{}
	}
	return b.scopes[n]
}

// enter lets an event have its effect, whatever it breaks.
func (b *book) enter(e api.Event) {
	b.now = e.At
	if e.Task == 0 {
		return
	}
	t := b.task(e.Task)
	switch e.Kind {
	case api.VStart:
		b.start(t, e.N)
	case api.VEnd:
		b.end(t)
	case api.VWait:
		t.waits = true
	case api.VGo:
		t.waits = false
	case api.VOpen:
		b.open(e.Task, e.N)
	case api.VLeft:
		b.close(e.N)
	case api.VShield:
		t.links = append(t.links, shield())
	case api.VUnveil:
		t.links = withoutLast(t.links, shield())
	case api.VAcquire:
		t.held = append(t.held, e.N)
	case api.VRelease, api.VLeak:
		t.held = withoutLast(t.held, e.N)
	}
}

// start lets a task begin, also again, in a scope alone.
func (b *book) start(t *task, n int) {
	b.stop(t)
	t.begun, t.ended, t.scope = true, false, n
	b.scope(n).running++
}

func (b *book) end(t *task) {
	b.stop(t)
	t.ended, t.links, t.held = true, nil, nil
}

// stop lets a task run no more in its scope, if it does.
func (b *book) stop(t *task) {
	if t.begun && !t.ended {
		b.scope(t.scope).running--
	}
}

// open opens a scope for a task, also again. Then it is nobody else's any more.
func (b *book) open(owner, n int) {
	b.close(n)
	s, t := b.scope(n), b.task(owner)
	s.known, s.open, s.owner = true, true, owner
	t.links = append(t.links, scopeLink(n))
}

// close closes a scope, whoever's it is.
func (b *book) close(n int) {
	s := b.scope(n)
	if s.open {
		s.open = false
		t := b.task(s.owner)
		t.links = withoutLast(t.links, scopeLink(n))
	}
}

func scopeLink(n int) api.Link { return api.Link{Kind: api.LScope, N: n} }

func shield() api.Link { return api.Link{Kind: api.LShield} }

// withoutLast removes the last one of the elements that equal x from a list, if there is one.
func withoutLast[T comparable](list []T, x T) []T {
	for at, y := range slices.Backward(list) {
		if y == x {
			return slices.Delete(list, at, at+1)
		}
	}
	return list
}
