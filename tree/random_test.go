package tree

import (
	"math/rand/v2"
	"slices"
	"testing"

	"seedbed/api"
)

// node is a task, a scope or a shield of a plain tree. What is above it never changes.
type node struct {
	api.Link
	up   int // the position of the next node of the chain; -1: there is none
	gone bool
}

// plainTask is a task: the positions of its own node, and of that of its innermost open link (its own one if there is none).
type plainTask struct {
	self, top int
	leaving   bool
	left      api.Fault
	fault     api.Fault
}

type plainScope struct {
	self, owner int
	supervised  bool
	fault       api.Fault
}

// plain is a tree in which all ways up are kept as they were when something was made.
type plain struct {
	nodes  []node
	tasks  []plainTask
	scopes []plainScope
}

func (p *plain) copy() *plain {
	return &plain{slices.Clone(p.nodes), slices.Clone(p.tasks), slices.Clone(p.scopes)}
}

func (p *plain) add(kind, n, up int) int {
	p.nodes = append(p.nodes, node{Link: api.Link{Kind: kind, N: n}, up: up})
	return len(p.nodes) - 1
}

func (p *plain) runs(n int) bool {
	return n >= 1 && n <= len(p.tasks) && !p.nodes[p.tasks[n-1].self].gone
}

// acts returns the error of a task that is to do something.
func (p *plain) acts(n int) api.Errno {
	switch {
	case !p.runs(n):
		return api.ErrNone
	case p.tasks[n-1].leaving:
		return api.ErrPlace
	}
	return api.OK
}

func (p *plain) newTask(up int) (int, api.Errno) {
	if len(p.tasks) == api.MaxTasks {
		return 0, api.ErrFull
	}
	n := len(p.tasks) + 1
	self := p.add(api.LTask, n, up)
	p.tasks = append(p.tasks, plainTask{self: self, top: self})
	return n, api.OK
}

// links are the positions of the open links of a task, from the innermost to the outermost.
func (p *plain) links(n int) []int {
	var list []int
	for at := p.tasks[n-1].top; at != p.tasks[n-1].self; at = p.nodes[at].up {
		list = append(list, at)
	}
	return list
}

func (p *plain) open(n int, supervised bool) (int, api.Errno) {
	if err := p.acts(n); err != api.OK {
		return 0, err
	}
	if len(p.scopes) == api.MaxScopes {
		return 0, api.ErrFull
	}
	x := &p.tasks[n-1]
	x.top = p.add(api.LScope, len(p.scopes)+1, x.top)
	p.scopes = append(p.scopes, plainScope{self: x.top, owner: n, supervised: supervised})
	return len(p.scopes), api.OK
}

func (p *plain) shield(n int) api.Errno {
	if err := p.acts(n); err != api.OK {
		return err
	}
	shields := 0
	for _, at := range p.links(n) {
		if p.nodes[at].Kind == api.LShield {
			shields++
		}
	}
	if shields == api.MaxShields {
		return api.ErrFull
	}
	x := &p.tasks[n-1]
	x.top = p.add(api.LShield, 0, x.top)
	return api.OK
}

func (p *plain) unveil(n int) api.Errno {
	if err := p.acts(n); err != api.OK {
		return err
	}
	x := &p.tasks[n-1]
	if p.nodes[x.top].Kind != api.LShield {
		return api.ErrPlace
	}
	p.nodes[x.top].gone = true
	x.top = p.nodes[x.top].up
	return api.OK
}

func (p *plain) spawn(n int) (int, api.Errno) {
	if err := p.acts(n); err != api.OK {
		return 0, err
	}
	for _, at := range p.links(n) {
		if p.nodes[at].Kind == api.LScope {
			return p.newTask(at)
		}
	}
	return 0, api.ErrPlace
}

// inside are the running tasks that were spawned in a scope.
func (p *plain) inside(scope int) []int {
	var list []int
	for i, x := range p.tasks {
		if p.nodes[x.self].up == p.scopes[scope-1].self && p.runs(i+1) {
			list = append(list, i+1)
		}
	}
	return list
}

func isValid(f api.Fault) bool { return !slices.Contains(invalid(), f) }

func (p *plain) fail(scope int, f api.Fault) ([]api.Effect, api.Errno) {
	if scope < 1 || scope > len(p.scopes) || p.nodes[p.scopes[scope-1].self].gone {
		return nil, api.ErrNone
	}
	if !isValid(f) || f.Kind != api.FThrow {
		return nil, api.ErrArg
	}
	if s := &p.scopes[scope-1]; s.fault == none {
		s.fault = f
		return []api.Effect{struck(scope)}, api.OK
	}
	return nil, api.OK
}

func (p *plain) leave(n int, f api.Fault) ([]api.Effect, api.Errno) {
	switch {
	case !p.runs(n):
		return nil, api.ErrNone
	case !isValid(f):
		return nil, api.ErrArg
	}
	x := &p.tasks[n-1]
	if x.leaving || p.nodes[x.top].Kind != api.LScope {
		return nil, api.ErrPlace
	}
	scope := p.nodes[x.top].N
	if s := &p.scopes[scope-1]; f.Kind == api.FThrow && s.fault == none {
		s.fault = f
	}
	x.left = f
	if len(p.inside(scope)) == 0 {
		return []api.Effect{p.close(scope)}, api.OK
	}
	x.leaving = true
	if f == none {
		return nil, api.OK
	}
	return []api.Effect{struck(scope)}, api.OK
}

// close lets a scope be over.
func (p *plain) close(scope int) api.Effect {
	s := p.scopes[scope-1]
	x := &p.tasks[s.owner-1]
	f := s.fault
	if f == none && x.left == cancelled {
		f = cancelled
	}
	p.nodes[s.self].gone = true
	x.top, x.leaving = p.nodes[s.self].up, false
	return left(s.owner, scope, f)
}

func (p *plain) end(n int, f api.Fault) ([]api.Effect, api.Errno) {
	switch {
	case !p.runs(n):
		return nil, api.ErrNone
	case !isValid(f):
		return nil, api.ErrArg
	case len(p.links(n)) > 0:
		return nil, api.ErrPlace
	}
	x := &p.tasks[n-1]
	p.nodes[x.self].gone = true
	x.fault = f
	up := p.nodes[x.self].up
	if up < 0 {
		return nil, api.OK
	}
	var effects []api.Effect
	scope := p.nodes[up].N
	s := &p.scopes[scope-1]
	if f.Kind == api.FThrow && !s.supervised && s.fault == none {
		s.fault = f
		effects = append(effects, struck(scope))
	}
	if owner := p.tasks[s.owner-1]; owner.leaving && owner.top == s.self && len(p.inside(scope)) == 0 {
		effects = append(effects, p.close(scope))
	}
	return effects, api.OK
}

func (p *plain) chain(n int) []api.Link {
	var list []api.Link
	for at := p.tasks[n-1].top; at >= 0; at = p.nodes[at].up {
		list = append(list, p.nodes[at].Link)
	}
	return list
}

// below are the running tasks of what hangs below a node: first that of tasks, then that of a further link.
func (p *plain) below(self int) []int {
	var first, last []int
	for at, x := range p.nodes {
		switch {
		case x.up != self || x.gone:
		case x.Kind == api.LTask:
			first = append(append(first, x.N), p.below(at)...)
		default:
			last = append(last, p.below(at)...)
		}
	}
	return append(first, last...)
}

func (p *plain) task(n int) api.TaskState {
	x := p.tasks[n-1]
	state := api.TaskState{Ended: p.nodes[x.self].gone, Leaving: x.leaving, Fault: x.fault}
	if up := p.nodes[x.self].up; up >= 0 {
		state.Scope = p.nodes[up].N
	}
	for _, at := range p.links(n) {
		state.Open = append([]api.Link{p.nodes[at].Link}, state.Open...)
	}
	return state
}

func (p *plain) scope(n int) api.ScopeState {
	s := p.scopes[n-1]
	state := api.ScopeState{Owner: s.owner, Supervised: s.supervised, Over: p.nodes[s.self].gone, Fault: s.fault}
	for i, x := range p.tasks {
		if p.nodes[x.self].up == s.self {
			state.Tasks = append(state.Tasks, i+1)
		}
	}
	return state
}

// act is a call that a walker has made, and what it returned.
type act struct {
	what    string
	n       int
	f       api.Fault
	effects []api.Effect
	err     api.Errno
}

// walker does something at random with a tree and with a plain one, which must return the same.
type walker struct {
	builder
	p     *plain
	r     *rand.Rand
	tired int // of eight steps so many go back
}

// wild walkers make many calls that can't be.
func (w *walker) anyTask(wild bool) int {
	for {
		n := w.r.IntN(len(w.p.tasks)+2) - w.r.IntN(2)
		if wild || w.p.runs(n) {
			return n
		}
	}
}

func (w *walker) anyScope(wild bool) int {
	var open []int
	for i, s := range w.p.scopes {
		if !w.p.nodes[s.self].gone {
			open = append(open, i+1)
		}
	}
	if wild || len(open) == 0 {
		return w.r.IntN(len(w.p.scopes) + 2)
	}
	return open[w.r.IntN(len(open))]
}

func (w *walker) anyFault(wild bool) api.Fault {
	switch n := w.r.IntN(8); {
	case wild:
		list := invalid()
		return list[w.r.IntN(len(list))]
	case n < 4:
		return none
	case n < 6:
		return cancelled
	}
	return throw(string(rune('a' + w.r.IntN(26))))
}

// back returns a task that can act, mostly one of the last ones, and what takes it nearer to its end; roots end seldom. There may be none.
func (w *walker) back() (int, string) {
	var list []int
	for i, x := range w.p.tasks {
		isRoot := w.p.nodes[x.self].up < 0 && x.top == x.self
		if w.p.acts(i+1) == api.OK && (!isRoot || w.r.IntN(20) == 0) {
			list = append(list, i+1)
		}
	}
	if len(list) == 0 {
		return 1, "s"
	}
	n := list[max(w.r.IntN(len(list)), w.r.IntN(len(list)), w.r.IntN(len(list)))]
	switch w.p.nodes[w.p.tasks[n-1].top].Kind {
	case api.LShield:
		return n, "u"
	case api.LScope:
		return n, "l"
	}
	return n, "e"
}

// choose returns what is done next: one thing out of a string that names each as often as it is likely.
func (w *walker) choose() act {
	const likely = "sssssssssooooovvvuullleffc"
	ended := !slices.ContainsFunc(w.p.tasks, func(x plainTask) bool { return !w.p.nodes[x.self].gone })
	wild := w.r.IntN(12) == 0 || ended
	a := act{what: likely[w.r.IntN(len(likely)):][:1], n: w.anyTask(wild), f: w.anyFault(w.r.IntN(20) == 0)}
	if w.r.IntN(40) == 0 {
		w.tired = w.r.IntN(6)
	}
	switch {
	case w.r.IntN(100) == 0 || ended && w.r.IntN(4) == 0:
		a.what = "r"
	case a.what == "f":
		a.n = w.anyScope(wild)
		if a.f == none {
			a.f = throw("f")
		}
	case a.what == "s" && !wild && len(w.p.links(a.n)) == 0:
		a.what = "o"
	case w.r.IntN(8) < w.tired:
		a.n, a.what = w.back()
	}
	return a
}

func (w *walker) step() act {
	a := w.choose()
	var n, wantN int
	var want []api.Effect
	wantErr := api.OK
	switch a.what {
	case "s":
		n, a.err = w.Spawn(a.n)
		wantN, wantErr = w.p.spawn(a.n)
	case "o":
		supervised := w.r.IntN(3) == 0
		n, a.err = w.Open(a.n, supervised)
		wantN, wantErr = w.p.open(a.n, supervised)
	case "v":
		a.err, wantErr = w.Shield(a.n), w.p.shield(a.n)
	case "u":
		a.err, wantErr = w.Unveil(a.n), w.p.unveil(a.n)
	case "l":
		a.effects, a.err = w.Leave(a.n, a.f)
		want, wantErr = w.p.leave(a.n, a.f)
	case "e":
		a.effects, a.err = w.End(a.n, a.f)
		want, wantErr = w.p.end(a.n, a.f)
	case "f":
		a.effects, a.err = w.Fail(a.n, a.f)
		want, wantErr = w.p.fail(a.n, a.f)
	case "r":
		n, a.err = w.Root()
		wantN, wantErr = w.p.newTask(-1)
	case "c":
		w.Tree = w.Copy()
	}
	if n != wantN || a.err != wantErr || !sameList(a.effects, want) {
		w.t.Fatalf("%+v: %d, want %d, %d, %+v", a, n, wantN, wantErr, want)
	}
	return a
}

// check checks that both trees look the same.
func (w *walker) check() {
	w.t.Helper()
	for i := range w.p.tasks {
		w.wantTask(i+1, w.p.task(i+1))
		if w.p.runs(i + 1) {
			w.wantChain(i+1, w.p.chain(i+1)...)
		}
	}
	for i, s := range w.p.scopes {
		w.wantScope(i+1, w.p.scope(i+1))
		if w.p.nodes[s.self].gone {
			w.wantBelow(i + 1)
		} else {
			w.wantBelow(i+1, w.p.below(s.self)...)
		}
	}
	if w.t.Failed() {
		w.t.FailNow()
	}
}

func newWalker(t *testing.T, r *rand.Rand) *walker {
	roots := 1 + r.IntN(3)
	w := &walker{builder: build(t, roots), p: &plain{}, r: r, tired: r.IntN(6)}
	for range roots {
		w.p.newTask(-1)
	}
	return w
}

// walks lets walkers walk, and visits them after each step. It counts the scopes that come to be over only when a task ends.
func walks(t *testing.T, seeds uint64, visit func(w *walker, a act)) {
	t.Helper()
	late := 0
	for seed := range seeds {
		w := newWalker(t, rand.New(rand.NewPCG(seed, 19)))
		for range 100 + w.r.IntN(300) {
			a := w.step()
			if a.what == "e" && len(a.effects) > 0 && a.effects[len(a.effects)-1].Kind == api.ELeft {
				late++
			}
			visit(w, a)
			if t.Failed() {
				t.FailNow()
			}
		}
	}
	if late < int(seeds) {
		t.Errorf("only %d scopes are over when a task ends", late)
	}
}

// TestP191Random holds trees against plain ones.
func TestP191Random(t *testing.T) {
	t.Parallel()
	walks(t, 100, func(w *walker, a act) { w.check() })
}

// TestP191Apart checks that copies go their own ways.
func TestP191Apart(t *testing.T) {
	t.Parallel()
	for seed := range uint64(40) {
		r := rand.New(rand.NewPCG(seed, 191))
		list := []*walker{newWalker(t, r)}
		for range 200 {
			w := list[r.IntN(len(list))]
			if len(list) < 4 && r.IntN(30) == 0 {
				list = append(list, &walker{builder{w.Copy(), t}, w.p.copy(), r, w.tired})
			}
			w.step()
			for _, other := range list {
				other.check()
			}
		}
	}
}

func (w *walker) running() []int {
	var list []int
	for i := range w.p.tasks {
		if x, _ := w.Task(i + 1); !x.Ended {
			list = append(list, i+1)
		}
	}
	return list
}

// TestP192Within checks that all that a running task needs runs.
func TestP192Within(t *testing.T) {
	t.Parallel()
	walks(t, 100, func(w *walker, a act) {
		for _, n := range w.running() {
			x, _ := w.Task(n)
			chain, err := w.Chain(n)
			if x.Scope > 0 {
				s, _ := w.Scope(x.Scope)
				chain = append(chain, scopeLink(x.Scope), taskLink(s.Owner))
			}
			for _, l := range chain {
				s, _ := w.Scope(l.N)
				y, _ := w.Task(l.N)
				if err != api.OK || l.Kind == api.LScope && s.Over || l.Kind == api.LTask && y.Ended {
					t.Errorf("after %+v the task %d runs below %v of %v", a, n, l, chain)
				}
			}
		}
	})
}

// TestP193First checks with which faults scopes end.
func TestP193First(t *testing.T) {
	t.Parallel()
	kinds := [3]int{}
	var w *walker
	var first map[int]api.Fault  // by scope: the first fault that it gets
	var blocks map[int]api.Fault // by scope: what its block ended with
	var innermost map[int]int    // by task: its innermost link, before the last step
	walks(t, 100, func(now *walker, a act) {
		if now != w {
			w, first, blocks, innermost = now, map[int]api.Fault{}, map[int]api.Fault{}, map[int]int{}
		}
		at := 0
		switch {
		case a.err != api.OK:
		case a.what == "f":
			at = a.n
		case a.what == "l":
			at = innermost[a.n]
			blocks[at] = a.f
		case a.what == "e":
			x, _ := w.Task(a.n)
			if s, _ := w.Scope(x.Scope); !s.Supervised {
				at = x.Scope
			}
		}
		if _, had := first[at]; at > 0 && !had && a.f.Kind == api.FThrow {
			first[at] = a.f
		}
		for _, e := range a.effects {
			if e.Kind != api.ELeft {
				continue
			}
			want, had := first[e.M]
			if !had && blocks[e.M] == cancelled {
				want = cancelled
			}
			if e.Fault != want {
				t.Errorf("the scope %d ends with %v, want %v", e.M, e.Fault, want)
			}
			kinds[want.Kind]++
		}
		for _, n := range w.running() {
			innermost[n] = 0
			if x, _ := w.Task(n); len(x.Open) > 0 {
				innermost[n] = x.Open[len(x.Open)-1].N
			}
		}
	})
	if kinds[api.FNone] < 50 || kinds[api.FThrow] < 50 || kinds[api.FCancel] < 50 {
		t.Errorf("only so many scopes end with faults: %v", kinds)
	}
}

// TestP194Below checks that those are below a scope in whose chains it stands.
func TestP194Below(t *testing.T) {
	t.Parallel()
	deep := 0
	walks(t, 100, func(w *walker, a act) {
		for i := range w.p.scopes {
			below, _ := w.Below(i + 1)
			var want []int
			for _, n := range w.running() {
				chain, _ := w.Chain(n)
				own := slices.Index(chain, taskLink(n))
				if at := slices.Index(chain, scopeLink(i+1)); at > own {
					want = append(want, n)
					if at > own+2 {
						deep++
					}
				}
			}
			slices.Sort(below)
			if !slices.Equal(below, want) {
				t.Errorf("after %+v %v are below the scope %d, want %v", a, below, i+1, want)
			}
		}
	})
	if deep < 1000 {
		t.Errorf("only %d times somebody is deep below", deep)
	}
}

// TestP195Over checks that no scope waits for nothing.
func TestP195Over(t *testing.T) {
	t.Parallel()
	waiting := 0
	walks(t, 100, func(w *walker, a act) {
		for _, n := range w.running() {
			x, _ := w.Task(n)
			if !x.Leaving {
				continue
			}
			waiting++
			s, _ := w.Scope(x.Open[len(x.Open)-1].N)
			if s.Over || s.Owner != n || !slices.ContainsFunc(s.Tasks, func(c int) bool { return slices.Contains(w.running(), c) }) {
				t.Errorf("after %+v the task %d is leaving %+v", a, n, s)
			}
		}
	})
	if waiting < 1000 {
		t.Errorf("only %d times a task is leaving", waiting)
	}
}
