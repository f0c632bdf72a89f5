package ledger

import (
	"math/rand/v2"
	"slices"
	"testing"

	"seedbed/api"
)

// deed is an acquisition or a release. Its time is its position in the list of all, counted from 1.
type deed struct {
	task, what int
	entry      int // the entry that is made or released
	release    bool
	ending     bool
}

// plain is a ledger that remembers all deeds and nothing else.
type plain []deed

// entries returns what the deeds come to.
func (p plain) entries() []api.Entry {
	var list []api.Entry
	for i, d := range p {
		if d.release {
			list[d.entry].To = i + 1
		} else {
			list = append(list, api.Entry{What: d.what, Task: d.task, From: i + 1})
		}
	}
	return list
}

// open returns the positions of the entries of a task that are held.
func (p plain) open(task int) []int {
	var list []int
	for at, e := range p.entries() {
		if e.Task == task && e.To == 0 {
			list = append(list, at)
		}
	}
	return list
}

func (p *plain) acquire(task, what int) api.Errno {
	entries := p.entries()
	switch {
	case task < 1 || task > 64 || what < 0 || what > 999:
		return api.ErrArg
	case len(p.open(task)) >= 40 || len(entries) >= 400:
		return api.ErrFull
	}
	*p = append(*p, deed{task: task, what: what, entry: len(entries)})
	return api.OK
}

func (p *plain) release(task, what int) api.Errno {
	if task < 1 || task > 64 || what < 0 || what > 999 {
		return api.ErrArg
	}
	entries := p.entries()
	for _, at := range slices.Backward(p.open(task)) {
		if entries[at].What == what {
			*p = append(*p, deed{task: task, what: what, entry: at, release: true})
			return api.OK
		}
	}
	return api.ErrNone
}

func (p *plain) end(task int) ([]int, api.Errno) {
	if task < 1 || task > 64 {
		return nil, api.ErrArg
	}
	open, entries := p.open(task), p.entries()
	slices.Reverse(open)
	var whats []int
	for _, at := range open {
		whats = append(whats, entries[at].What)
		*p = append(*p, deed{task: task, what: entries[at].What, entry: at, release: true, ending: true})
	}
	return whats, api.OK
}

func (p plain) held(task int) ([]int, api.Errno) {
	if task < 1 || task > 64 {
		return nil, api.ErrArg
	}
	var whats []int
	for _, at := range p.open(task) {
		whats = append(whats, p.entries()[at].What)
	}
	return whats, api.OK
}

// crossed compares each entry with all later ones of its task.
func (p plain) crossed() []int {
	var list []int
	entries := p.entries()
	for at, e := range entries {
		over := func(later api.Entry) bool {
			return later.Task == e.Task && later.From < e.To && (later.To == 0 || later.To > e.To)
		}
		if e.To != 0 && slices.ContainsFunc(entries[at+1:], over) {
			list = append(list, at)
		}
	}
	return list
}

func (p plain) leaks() []int {
	var list []int
	for _, d := range p {
		if d.ending {
			list = append(list, d.entry)
		}
	}
	slices.Sort(list)
	return list
}

// walk is a ledger that is used at random, and a plain one.
type walk struct {
	builder
	p            plain
	r            *rand.Rand
	tasks, whats int
	leaks        bool // it ends tasks that hold something
	nested       bool // it releases only what was acquired last
}

func (w *walk) step() {
	task, what := w.r.IntN(w.tasks)+1, w.r.IntN(w.whats)
	if w.r.IntN(40) == 0 {
		task += 64 * w.r.IntN(2)
		what -= 1000 * w.r.IntN(2)
	}
	switch k := w.r.IntN(16); {
	case k < 8:
		w.both("Acquire", task, what, w.Acquire(task, what), w.p.acquire(task, what))
	case k < 15:
		if held, err := w.p.held(task); err == api.OK && len(held) > 0 && (w.nested || k < 10) {
			what = held[len(held)-1]
		}
		w.both("Release", task, what, w.Release(task, what), w.p.release(task, what))
	case w.leaks:
		list, err := w.End(task)
		want, wantErr := w.p.end(task)
		if !sameList(list, want) || err != wantErr {
			w.t.Errorf("End(%d) = %v, %d, want %v, %d", task, list, err, want, wantErr)
		}
		w.emptyHanded(task)
	}
}

func (w *walk) both(what string, task, n int, got, want api.Errno) {
	w.t.Helper()
	if got != want {
		w.t.Fatalf("%s(%d, %d) = %d, want %d", what, task, n, got, want)
	}
}

// emptyHanded is the first part of P21.4.
func (w *walk) emptyHanded(task int) {
	w.t.Helper()
	if held, _ := w.Held(task); len(held) > 0 {
		w.t.Errorf("P21.4: %d holds %v after its end", task, held)
	}
}

// compare compares all that the two ledgers tell.
func (w *walk) compare() {
	w.t.Helper()
	w.wantLog(w.p.entries()...)
	w.wantCrossed(w.p.crossed()...)
	w.wantLeaks(w.p.leaks()...)
	held := 0
	for task := -1; task <= w.tasks+1; task++ {
		list, err := w.Held(task)
		want, wantErr := w.p.held(task)
		if !sameList(list, want) || err != wantErr {
			w.t.Fatalf("Held(%d) = %v, %d, want %v, %d", task, list, err, want, wantErr)
		}
		held += len(want)
	}
	w.wantSound(held == 0 && len(w.p.crossed()) == 0 && len(w.p.leaks()) == 0)
}

// promises checks P21.2 to P21.4 by the log alone.
func (w *walk) promises() {
	w.t.Helper()
	log := w.Log()
	times := map[int]bool{}
	for _, e := range log {
		if e.To != 0 && e.To <= e.From || e.From < 1 {
			w.t.Errorf("P21.2: %v is released before it was acquired", e)
		}
		if times[e.From] || e.To != 0 && times[e.To] {
			w.t.Errorf("P21.2: a time of %v is there twice", e)
		}
		times[e.From] = true
		times[e.To] = e.To != 0
	}
	crossed := w.Crossed()
	if w.nested && len(crossed) > 0 {
		w.t.Errorf("P21.3: %v are crossed", crossed)
	}
	for _, at := range w.Leaks() {
		if slices.Contains(crossed, at) {
			w.t.Errorf("P21.4: the leak %d is crossed", at)
		}
	}
}

// TestP211Walks holds ledgers against plain ones, also in copies that go on for themselves.
func TestP211Walks(t *testing.T) {
	for seed := range uint64(300) {
		r := rand.New(rand.NewPCG(seed, 21))
		w := &walk{builder: build(t), r: r, tasks: 1 + r.IntN(5), whats: 1 + r.IntN(6), leaks: r.IntN(3) > 0, nested: r.IntN(3) == 0}
		for range 10 + r.IntN(150) {
			if r.IntN(10) == 0 {
				w.Ledger = w.Copy()
			}
			w.step()
			w.compare()
			if t.Failed() {
				t.Fatalf("seed %d", seed)
			}
		}
		w.promises()
	}
}

// TestP212Once checks long walks that come to the limits.
func TestP212Once(t *testing.T) {
	for seed := range uint64(20) {
		r := rand.New(rand.NewPCG(seed, 212))
		w := &walk{builder: build(t), r: r, tasks: 1 + r.IntN(64), whats: 1000, leaks: seed%2 == 0}
		for range 1200 {
			w.step()
		}
		w.compare()
		w.promises()
	}
}

// TestP213Nested releases what was acquired last, and ends tasks in between.
func TestP213Nested(t *testing.T) {
	for seed := range uint64(60) {
		r := rand.New(rand.NewPCG(seed, 213))
		w := &walk{builder: build(t), r: r, tasks: 1 + r.IntN(4), whats: 1 + r.IntN(3), leaks: seed%2 == 0, nested: true}
		for range 150 {
			w.step()
			w.promises()
		}
		w.wantCrossed()
	}
}

// TestP214End ends all tasks of ledgers with crossed entries.
func TestP214End(t *testing.T) {
	for seed := range uint64(60) {
		r := rand.New(rand.NewPCG(seed, 214))
		w := &walk{builder: build(t), r: r, tasks: 3, whats: 4}
		for range 60 {
			w.step()
		}
		for task := range 3 {
			w.End(task + 1)
			w.emptyHanded(task + 1)
			w.promises()
		}
		for _, e := range w.Log() {
			if e.To == 0 {
				t.Errorf("%v is held, though all tasks have ended", e)
			}
		}
	}
}
