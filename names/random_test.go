package names

import (
	"math/rand/v2"
	"slices"
	"testing"

	"seedbed/api"
	"seedbed/syntax"
)

// Kinds of events.
const (
	opens = iota
	closes
	makes
	mentionsIt
	fails
)

// event is what the text of a function does with names: it opens or closes a block, makes or mentions a variable, or is wrong in itself.
type event struct {
	kind int
	name string
	slot *int
	err  api.Errno
}

// teller lists the events of a function in the order in which they are to be looked at.
type teller struct {
	p      *api.Program
	fn     *api.Func
	loop   bool
	events []event
}

func (w *teller) tell(list ...event) { w.events = append(w.events, list...) }

func (w *teller) fail(is bool, err api.Errno) {
	if is {
		w.tell(event{kind: fails, err: err})
	}
}

func (w *teller) exprs(list []api.Expr) {
	for i := range list {
		if e := &list[i]; e.Op == api.EName {
			w.tell(event{kind: mentionsIt, name: e.S, slot: &e.Slot})
		}
		w.exprs(list[i].Args)
	}
}

func (w *teller) block(list []api.Stmt, first ...event) {
	w.tell(event{kind: opens})
	w.tell(first...)
	for i := range list {
		w.stmt(&list[i])
	}
	w.tell(event{kind: closes})
}

func (w *teller) call(s *api.Stmt) {
	at := -1
	for i, f := range w.p.Funcs {
		if f.Name == s.Fn {
			at = i
		}
	}
	if at < 0 {
		w.fail(true, api.ErrName)
		return
	}
	f := w.p.Funcs[at]
	w.fail(f.Flow != (s.Op == api.SEach), api.ErrFlow)
	w.fail(len(f.Params) != len(s.Args), api.ErrCount)
	s.Index = at
}

func (w *teller) stmt(s *api.Stmt) {
	variable := []event{{kind: makes, name: s.Name, slot: &s.Slot}}
	outer := w.loop
	defer func() { w.loop = outer }()
	if s.Op == api.STry {
		w.block(s.Body)
		if s.Name != "" {
			w.block(s.Other, variable...)
		}
		w.block(s.Last)
		return
	}
	w.exprs(s.Args)
	if s.Fn != "" {
		w.call(s)
	}
	switch s.Op {
	case api.SSet:
		variable[0].kind = mentionsIt
	case api.SUse, api.SEach:
		w.loop = outer || s.Op == api.SEach
		w.block(s.Body, variable...)
		return
	case api.SWhile:
		w.loop = true
	}
	if s.Name != "" {
		w.tell(variable...)
	}
	w.fail(!w.loop && (s.Op == api.SBreak || s.Op == api.SContinue || s.Op == api.SReceive && s.Flag == 1), api.ErrPlace)
	w.fail(s.Op == api.SProduce && !w.fn.Flow, api.ErrPlace)
	w.fail(s.Op == api.SReturn && len(s.Args) == 0 && w.fn.Result != 0 || s.Op == api.SReturn && len(s.Args) == 1 && w.fn.Result == 0, api.ErrPlace)
	w.block(s.Body)
	w.block(s.Other)
	for i := range s.Cases {
		k := &s.Cases[i]
		w.exprs(k.Args)
		if k.Name != "" {
			w.block(k.Body, event{kind: makes, name: k.Name, slot: &k.Slot})
		} else {
			w.block(k.Body)
		}
	}
}

// madeAt returns the position of the event that made the variable of a name that is seen at one.
func (w *teller) madeAt(at int, name string) int {
	closed := 0
	for i := at - 1; i >= 0; i-- {
		switch e := w.events[i]; {
		case e.kind == closes:
			closed++
		case e.kind == opens:
			closed = max(closed-1, 0)
		case e.kind == makes && e.name == name && closed == 0:
			return i
		}
	}
	return -1
}

// made is how many variables are made before an event.
func (w *teller) made(at int) int {
	n := 0
	for _, e := range w.events[:at] {
		if e.kind == makes {
			n++
		}
	}
	return n
}

// settle gives all slots.
func (w *teller) settle() api.Errno {
	for i, e := range w.events {
		at := w.madeAt(i, e.name)
		switch e.kind {
		case fails:
			return e.err
		case makes:
			if at >= 0 {
				return api.ErrTwice
			}
			*e.slot = w.made(i)
		case mentionsIt:
			if at < 0 {
				return api.ErrName
			}
			*e.slot = w.made(at)
		}
	}
	w.fn.Vars = w.made(len(w.events))
	if w.fn.Vars > api.MaxVars {
		return api.ErrFull
	}
	return api.OK
}

// simpleResolve resolves a program in place, by looking back from each name.
func simpleResolve(p *api.Program) api.Errno {
	home := -1
	for i, f := range p.Funcs {
		for j, g := range p.Funcs {
			if i != j && f.Name == g.Name {
				return api.ErrTwice
			}
		}
		if f.Name == "main" {
			home = i
		}
	}
	if home < 0 {
		return api.ErrName
	}
	if p.Funcs[home].Flow {
		return api.ErrFlow
	}
	if len(p.Funcs[home].Params) > 0 {
		return api.ErrCount
	}
	for i := range p.Funcs {
		w := &teller{p: p, fn: &p.Funcs[i]}
		var params []event
		for _, q := range w.fn.Params {
			params = append(params, event{kind: makes, name: q.Name, slot: new(int)})
		}
		w.block(w.fn.Body, params...)
		if err := w.settle(); err != api.OK {
			return err
		}
	}
	return api.OK
}

// TestP41Random compares Resolve with simpleResolve, for random programs with and without mistakes.
func TestP41Random(t *testing.T) {
	r := rand.New(rand.NewPCG(4, 1))
	results := map[api.Errno]int{}
	for i := range 6000 {
		m := &maker{r: r, wrong: []int{60, 1000}[i%2]}
		p, _, err := syntax.Parse(m.program())
		if err != api.OK {
			continue
		}
		want, _ := syntax.Clone(p)
		wantErr := simpleResolve(&want)
		got, err := Resolve(p)
		results[err]++
		if err != wantErr || err == api.OK && !syntax.Same(got, want) {
			t.Fatalf("Resolve(%v) = %v, %d, want %v, %d", p, got, err, want, wantErr)
		}
		if err == api.OK {
			wantProperties(t, r, p, got)
		} else if i%4 == 0 {
			wantError(t, p, err)
		}
	}
	for err, least := range map[api.Errno]int{api.OK: 1000, api.ErrTwice: 50, api.ErrName: 50, api.ErrFlow: 20, api.ErrCount: 20, api.ErrPlace: 20, api.ErrFull: 5} {
		if results[err] < least {
			t.Errorf("%d programs have the error %d", results[err], err)
		}
	}
}

// wantProperties checks P4.4 for a program and what Resolve makes of it.
func wantProperties(t *testing.T, r *rand.Rand, p, q api.Program) {
	t.Helper()
	wantOthersUnchanged(t, p, q)
	bare, _ := Strip(q)
	if again, err := Resolve(bare); err != api.OK || !syntax.Same(again, q) {
		t.Errorf("Resolve of Strip of Resolve = %v, %d", again, err)
	}
	fn := r.IntN(len(p.Funcs))
	vars, err := Vars(p, fn)
	if err != api.OK || len(vars) != q.Funcs[fn].Vars {
		t.Errorf("Vars = %v, %d", vars, err)
	}
	free, err := Free(p, fn, "a")
	if err != api.OK || slices.Contains(vars, free) {
		t.Errorf("Free = %s, %d", free, err)
	}
	if len(vars) == 0 {
		return
	}
	from := vars[r.IntN(len(vars))]
	renamed, err := Rename(q, fn, from, free)
	if err != api.OK {
		t.Fatalf("Rename: %d", err)
	}
	if back, err := Rename(renamed, fn, free, from); err != api.OK || !syntax.Same(back, p) {
		t.Errorf("Rename and back = %v, %d", back, err)
	}
	again, err := Resolve(renamed)
	if err != api.OK {
		t.Errorf("Resolve of Rename: %d", err)
	}
	for name := range mentions(&again.Funcs[fn]) {
		if *name == free {
			*name = from
		}
	}
	if !syntax.Same(again, q) {
		t.Errorf("Rename changes slots: %v, %v", again, q)
	}
}
