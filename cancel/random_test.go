package cancel

import (
	"cmp"
	"math/rand/v2"
	"reflect"
	"slices"
	"testing"

	"seedbed/api"
	"seedbed/tree"
)

// until is a deadline of a scope that has not come.
type until struct{ at, scope int }

// plain is a tree with lists of what is struck and of deadlines; it looks at all tasks before and after each strike.
type plain struct {
	*tree.Tree
	tasks  int // how many were made
	struck []api.Link
	untils []until
}

func (p *plain) copy() *plain {
	return &plain{p.Copy(), p.tasks, slices.Clone(p.struck), slices.Clone(p.untils)}
}

// reach is the chain of a task up to the first shield.
func (p *plain) reach(n int) []api.Link {
	var list []api.Link
	chain, _ := p.Chain(n)
	for _, l := range chain {
		if l.Kind == api.LShield {
			break
		}
		list = append(list, l)
	}
	return list
}

func (p *plain) isPending(n int) bool {
	for _, l := range p.reach(n) {
		if slices.Contains(p.struck, l) {
			return true
		}
	}
	return false
}

func (p *plain) pending() []int {
	var list []int
	for n := range p.tasks {
		if p.isPending(n + 1) {
			list = append(list, n+1)
		}
	}
	return list
}

// strike returns effects in the order of a list, in which all must be that become pending.
func (p *plain) strike(t *testing.T, l api.Link, order []int) []api.Effect {
	before := p.pending()
	p.struck = append(p.struck, l)
	var news, list []int
	for _, n := range p.pending() {
		if !slices.Contains(before, n) {
			news = append(news, n)
		}
	}
	for _, n := range order {
		if slices.Contains(news, n) {
			list = append(list, n)
		}
	}
	if slices.Sort(news); !slices.Equal(news, slices.Sorted(slices.Values(list))) {
		t.Fatalf("%v become pending, out of %v", news, order)
	}
	return cancels(list...)
}

func (p *plain) strikeScope(t *testing.T, n int) []api.Effect {
	s, _ := p.Scope(n)
	below, _ := p.Below(n)
	return p.strike(t, scopeLink(n), append([]int{s.Owner}, below...))
}

func (p *plain) strikeTask(t *testing.T, n int) ([]api.Effect, api.Errno) {
	x, err := p.Task(n)
	if err != api.OK || x.Ended {
		return nil, api.ErrNone
	}
	order := []int{n}
	for _, l := range x.Open {
		if l.Kind == api.LScope {
			below, _ := p.Below(l.N)
			order = append(order, below...)
			break
		}
	}
	return p.strike(t, taskLink(n), order), api.OK
}

// follow strikes scopes instead of telling that.
func (p *plain) follow(t *testing.T, effects []api.Effect, err api.Errno) ([]api.Effect, api.Errno) {
	var list, last []api.Effect
	for _, e := range effects {
		if e.Kind == api.EScope {
			list = append(list, p.strikeScope(t, e.N)...)
		} else {
			last = append(last, e)
		}
	}
	return append(list, last...), err
}

// coming are the deadlines of running scopes that have not come, in their order.
func (p *plain) coming() []until {
	var list []until
	for _, u := range p.untils {
		if s, _ := p.Scope(u.scope); !s.Over {
			list = append(list, u)
		}
	}
	slices.SortFunc(list, func(u, v until) int { return cmp.Or(u.at-v.at, u.scope-v.scope) })
	return list
}

func (p *plain) expire(t *testing.T, now int) []api.Effect {
	var effects []api.Effect
	for _, u := range p.coming() {
		if u.at <= now {
			p.untils = slices.DeleteFunc(p.untils, func(v until) bool { return v == u })
			p.Fail(u.scope, throw("late"))
			effects = append(effects, p.strikeScope(t, u.scope)...)
		}
	}
	return effects
}

// deadline is the first deadline of one of the scopes of some links, or of all; -1: there is none.
func (p *plain) deadline(links []api.Link, all bool) int {
	for _, u := range p.coming() {
		if all || slices.Contains(links, scopeLink(u.scope)) {
			return u.at
		}
	}
	return -1
}

// act is a call that a walker has made, and what it returned.
type act struct {
	what    string
	n       int
	effects []api.Effect
	err     api.Errno
}

// walker does something at random with a grove and with a plain one, which must return the same.
type walker struct {
	builder
	p     *plain
	r     *rand.Rand
	now   int
	tired int // of eight steps so many go back
}

func newWalker(t *testing.T, r *rand.Rand) *walker {
	roots := 1 + r.IntN(3)
	w := &walker{builder: build(t, roots), p: &plain{tasks: roots}, r: r, tired: r.IntN(6)}
	w.p.Tree, _ = tree.New(roots)
	return w
}

func (w *walker) running() []int {
	var list []int
	for n := range w.p.tasks {
		if x, _ := w.p.Task(n + 1); !x.Ended {
			list = append(list, n+1)
		}
	}
	return list
}

// anyTask returns a task that mostly runs.
func (w *walker) anyTask() int {
	list := w.running()
	if w.r.IntN(15) == 0 || len(list) == 0 {
		return w.r.IntN(w.p.tasks+2) - w.r.IntN(2)
	}
	return list[w.r.IntN(len(list))]
}

func (w *walker) anyFault() api.Fault {
	list := []api.Fault{none, none, none, none, cancelled, cancelled, throw("x"), throw("y"), {Kind: 7}}
	return list[w.r.IntN(len(list))]
}

// anyScope returns a scope that mostly runs.
func (w *walker) anyScope() int {
	var list []int
	for n := 1; ; n++ {
		s, err := w.p.Scope(n)
		if err == api.OK && !s.Over {
			list = append(list, n)
		}
		if err != api.OK {
			break
		}
	}
	if w.r.IntN(15) == 0 || len(list) == 0 {
		return w.anyTask()
	}
	return list[w.r.IntN(len(list))]
}

// back returns a task that can act, mostly one of the last ones, and what takes it nearer to its end; roots stay.
func (w *walker) back() (int, string) {
	list := slices.DeleteFunc(w.running(), func(n int) bool {
		x, _ := w.p.Task(n)
		return x.Leaving || x.Scope == 0 && len(x.Open) == 0
	})
	if len(list) == 0 {
		return w.anyTask(), "o"
	}
	n := list[max(w.r.IntN(len(list)), w.r.IntN(len(list)))]
	x, _ := w.p.Task(n)
	switch {
	case len(x.Open) == 0:
		return n, "e"
	case x.Open[len(x.Open)-1].Kind == api.LShield:
		return n, "u"
	}
	return n, "l"
}

// choose returns what is done next: one thing out of a string that names each as often as it is likely.
func (w *walker) choose() (int, string) {
	const likely = "sssssssssoooooovvvuullefffkkkttc"
	if w.r.IntN(40) == 0 {
		w.tired = w.r.IntN(6)
	}
	n, what := w.anyTask(), likely[w.r.IntN(len(likely)):][:1]
	x, err := w.p.Task(n)
	switch {
	case w.r.IntN(100) == 0 || len(w.running()) == 0:
		return n, "r"
	case what == "s" && err == api.OK && len(x.Open) == 0:
		return n, "o"
	case what == "e" && err == api.OK && x.Scope == 0:
		return n, "s"
	case what == "f":
		return w.anyScope(), what
	case w.r.IntN(8) < w.tired:
		return w.back()
	}
	return n, what
}

// anyTime returns the time of a deadline, often none.
func (w *walker) anyTime() int {
	return w.now + w.r.IntN(12) - 3 - w.r.IntN(2)*1000
}

func (w *walker) step() act {
	a := act{}
	a.n, a.what = w.choose()
	f := w.anyFault()
	if a.what == "f" && f == none {
		f = throw("f")
	}
	var n, wantN int
	var want []api.Effect
	wantErr := api.OK
	switch a.what {
	case "s":
		n, a.err = w.Spawn(a.n)
		wantN, wantErr = w.p.Spawn(a.n)
		w.p.tasks = max(w.p.tasks, wantN)
	case "r":
		n, a.err = w.Root()
		wantN, wantErr = w.p.Root()
		w.p.tasks = max(w.p.tasks, wantN)
	case "o":
		n, wantN, a.err, wantErr = w.openBoth(a.n)
	case "v":
		a.err, wantErr = w.Shield(a.n), w.p.Shield(a.n)
	case "u":
		a.err, wantErr = w.Unveil(a.n), w.p.Unveil(a.n)
	case "l":
		a.effects, a.err = w.Leave(a.n, f)
		effects, err := w.p.Leave(a.n, f)
		want, wantErr = w.p.follow(w.t, effects, err)
	case "e":
		a.effects, a.err = w.End(a.n, f)
		effects, err := w.p.End(a.n, f)
		want, wantErr = w.p.follow(w.t, effects, err)
	case "f":
		a.effects, a.err = w.Fail(a.n, f)
		effects, err := w.p.Fail(a.n, f)
		want, wantErr = w.p.follow(w.t, effects, err)
	case "k":
		a.effects, a.err = w.Strike(a.n)
		want, wantErr = w.p.strikeTask(w.t, a.n)
	case "t":
		w.now += w.r.IntN(4)
		a.effects, a.err = w.Expire(w.now)
		want = w.p.expire(w.t, w.now)
	case "c":
		w.Grove = w.Copy()
	}
	if n != wantN || a.err != wantErr || !sameList(a.effects, want) {
		w.t.Fatalf("%+v with %v: %d, want %d, %d, %+v", a, f, n, wantN, wantErr, want)
	}
	return a
}

func (w *walker) openBoth(task int) (n, wantN int, err, wantErr api.Errno) {
	supervised, at := w.r.IntN(3) == 0, w.anyTime()
	n, err = w.Open(task, supervised, at)
	wantN, wantErr = w.p.Open(task, supervised)
	if wantErr == api.OK && at >= 0 {
		w.p.untils = append(w.p.untils, until{at, wantN})
	}
	return n, wantN, err, wantErr
}

// check checks that both groves look the same.
func (w *walker) check() {
	w.t.Helper()
	w.wantNext(w.p.deadline(nil, true))
	for n := -1; n <= w.p.tasks+1; n++ {
		x, err := w.Task(n)
		y, wantErr := w.p.Task(n)
		if !reflect.DeepEqual(x, y) || err != wantErr || w.Pending(n) != w.p.isPending(n) {
			w.t.Fatalf("Task(%d) = %+v, %d, %t, want %+v, %d, %t", n, x, err, w.Pending(n), y, wantErr, w.p.isPending(n))
		}
		chain, err := w.Chain(n)
		if want, wantErr := w.p.Chain(n); !sameList(chain, want) || err != wantErr {
			w.t.Fatalf("Chain(%d) = %v, %d, want %v, %d", n, chain, err, want, wantErr)
		}
		w.wantDeadline(n, w.p.deadline(w.p.reach(n), false))
		for _, l := range []api.Link{taskLink(n), scopeLink(n)} {
			if want := slices.Contains(w.p.struck, l); w.Struck(l) != want {
				w.t.Fatalf("Struck(%v) = %t", l, !want)
			}
		}
	}
	for n, err := 0, api.OK; err == api.OK || n == 1; n++ {
		var s, u api.ScopeState
		s, _ = w.Scope(n)
		u, err = w.p.Scope(n)
		below, _ := w.Below(n)
		if want, _ := w.p.Below(n); !reflect.DeepEqual(s, u) || !sameList(below, want) {
			w.t.Fatalf("Scope(%d) = %+v, below it %v, want %+v, %v", n, s, below, u, want)
		}
	}
	if w.t.Failed() {
		w.t.FailNow()
	}
}

// walks lets walkers walk, and visits them after each step with a copy of what was before.
func walks(t *testing.T, seeds uint64, visit func(w *walker, before *Grove, a act)) {
	t.Helper()
	for seed := range seeds {
		w := newWalker(t, rand.New(rand.NewPCG(seed, 20)))
		for range 100 + w.r.IntN(200) {
			before := w.Copy()
			a := w.step()
			visit(w, before, a)
			if t.Failed() {
				t.FailNow()
			}
		}
	}
}

// TestP201Random holds groves against plain ones.
func TestP201Random(t *testing.T) {
	t.Parallel()
	effects := map[string]int{}
	walks(t, 80, func(w *walker, before *Grove, a act) {
		effects[a.what] += len(a.effects)
		w.check()
	})
	for _, what := range []string{"l", "e", "f", "k", "t"} {
		if effects[what] < 100 {
			t.Errorf("only so many effects: %v", effects)
		}
	}
}

// TestP201Apart checks that copies go their own ways.
func TestP201Apart(t *testing.T) {
	t.Parallel()
	for seed := range uint64(20) {
		r := rand.New(rand.NewPCG(seed, 201))
		list := []*walker{newWalker(t, r)}
		for range 150 {
			w := list[r.IntN(len(list))]
			if len(list) < 4 && r.IntN(30) == 0 {
				list = append(list, &walker{w.builder.copy(), w.p.copy(), r, w.now, w.tired})
			}
			w.step()
			for _, other := range list {
				other.check()
			}
		}
	}
}

// TestP202Once checks that only tasks get an ECancel that become pending, and when a task is pending no more.
func TestP202Once(t *testing.T) {
	t.Parallel()
	begun, ended := 0, 0
	walks(t, 150, func(w *walker, before *Grove, a act) {
		seen := map[int]bool{}
		for _, e := range a.effects {
			if e.Kind != api.ECancel {
				continue
			}
			if before.Pending(e.N) || seen[e.N] || !w.Pending(e.N) {
				t.Errorf("%+v: %d was pending before: %t", a, e.N, before.Pending(e.N))
			}
			seen[e.N] = true
			begun++
		}
		for _, n := range w.running() {
			if !before.Pending(n) || w.Pending(n) {
				continue
			}
			ended++
			chain, _ := before.Chain(n)
			if !mayEnd(chain, a) {
				t.Errorf("after %+v %d is pending no more, with the chain %v", a, n, chain)
			}
		}
	})
	if begun < 1000 || ended < 500 {
		t.Errorf("only %d become pending, and %d are so no more", begun, ended)
	}
}

// mayEnd reports whether a task with a chain can be pending no more after an act: one of the chain has opened a shield, or a scope of it is over.
func mayEnd(chain []api.Link, a act) bool {
	if a.what == "v" {
		return slices.Contains(chain, taskLink(a.n))
	}
	return slices.ContainsFunc(a.effects, func(e api.Effect) bool {
		return e.Kind == api.ELeft && slices.Contains(chain, scopeLink(e.M))
	})
}

// TestP203Down checks that what is below a pending task is pending, but for shields.
func TestP203Down(t *testing.T) {
	t.Parallel()
	seen := 0
	walks(t, 100, func(w *walker, before *Grove, a act) {
		for _, n := range w.running() {
			x, _ := w.Task(n)
			if !w.Pending(n) || len(x.Open) == 0 || x.Open[len(x.Open)-1].Kind == api.LShield {
				continue
			}
			inner := x.Open[len(x.Open)-1]
			below, _ := w.Below(inner.N)
			for _, m := range below {
				chain, _ := w.Chain(m)
				if slices.Contains(chain[:slices.Index(chain, inner)], api.Link{Kind: api.LShield}) {
					continue
				}
				seen++
				if !w.Pending(m) {
					t.Errorf("after %+v %d is pending, and %d is not", a, n, m)
				}
			}
		}
	})
	if seen < 1000 {
		t.Errorf("only %d times a task is below a pending one", seen)
	}
}

// TestP204Shields checks that without shields all is of account that is struck.
func TestP204Shields(t *testing.T) {
	t.Parallel()
	seen := [2]int{}
	walks(t, 100, func(w *walker, before *Grove, a act) {
		for _, n := range w.running() {
			chain, _ := w.Chain(n)
			if slices.Contains(chain, api.Link{Kind: api.LShield}) {
				continue
			}
			is := 0
			if slices.ContainsFunc(chain, func(l api.Link) bool { return slices.Contains(w.p.struck, l) }) {
				is = 1
			}
			seen[is]++
			if w.Pending(n) != (is == 1) {
				t.Errorf("after %+v %d is pending: %t, with %v of which %v is struck", a, n, w.Pending(n), chain, w.p.struck)
			}
		}
	})
	if seen[0] < 1000 || seen[1] < 1000 {
		t.Errorf("only %v tasks have no shield", seen)
	}
}

// TestP205Twice checks that to strike twice is to strike once, also later.
func TestP205Twice(t *testing.T) {
	t.Parallel()
	walks(t, 60, func(w *walker, before *Grove, a act) {
		list := w.running()
		if len(list) == 0 || w.r.IntN(4) > 0 {
			return
		}
		n := list[w.r.IntN(len(list))]
		once, twice := w.builder.copy(), w.builder.copy()
		effects, _ := once.Strike(n)
		twice.strike(n, effects...)
		twice.strike(n)
		for _, b := range []builder{once, twice} {
			b.Shield(n)
			b.Expire(w.now + 2)
			b.Unveil(n)
			b.Spawn(n)
		}
		twice.strike(n)
		if s, u := once.all(), twice.all(); !reflect.DeepEqual(s, u) {
			t.Errorf("struck once it is %+v, struck twice %+v", s, u)
		}
	})
}
