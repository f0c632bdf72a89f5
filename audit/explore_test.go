package audit

import (
	"fmt"
	"math"
	"math/rand/v2"
	"reflect"
	"slices"
	"testing"

	"seedbed/api"
	"seedbed/snapshot"
	"seedbed/trace"
	"seedbed/world"
)

func explore(t *testing.T, e *world.Engine, s api.Spec, bound int) api.Survey {
	t.Helper()
	x, err := Explore(e, s, bound)
	if err != api.OK {
		t.Fatalf("Explore to %d: %d", bound, err)
	}
	return x
}

// textOfEnding has the status, and the texts of what was emitted.
func textOfEnding(status int, out []api.Value) string {
	text := fmt.Sprint(status)
	for _, v := range out {
		s, _ := trace.Value(v)
		text += " " + s
	}
	return text
}

func textsOfEndings(list []api.Ending) []string {
	var texts []string
	for _, e := range list {
		texts = append(texts, textOfEnding(e.Status, e.Out))
	}
	return texts
}

// TestP281Explore checks whole surveys.
func TestP281Explore(t *testing.T) {
	locks := plays()[1]
	yields := `fn main() { yield; emit 1; yield; }`
	values := `fn main() { scope { spawn f(-1); spawn f(10); spawn g("b"); spawn b(); } } fn f(n int) { yield; emit n; throw "x"; } fn g(s text) { yield; emit s; throw "x"; } fn b() { yield; emit true; throw "x"; }`
	for _, x := range []struct {
		name, source string
		bound        int
		want         api.Survey
		endings      []string
	}{
		{"example 1", plays()[0], 20, api.Survey{States: 8}, []string{"2 1 2", "2 2 1"}},
		{"example 2", locks, 20, api.Survey{States: 29}, []string{"2 1 1", "3"}},
		{"nothing was stepped", yields, 0, api.Survey{States: 1, Cut: true}, nil},
		{"up to the last step but one", yields, 2, api.Survey{States: 3, Cut: true}, nil},
		{"up to the last step", yields, 3, api.Survey{States: 4}, []string{"2 1"}},
		{"beyond the last step", yields, 4, api.Survey{States: 4}, []string{"2 1"}},
		{"as far as it goes", yields, api.MaxBound, api.Survey{States: 4}, []string{"2 1"}},
		{"stuck at once", `fn main() { let c = chan 0; receive c; }`, 1, api.Survey{States: 2}, []string{"3"}},
		{"time", `fn main() { sleep 3; sleep 2; emit 1; }`, 9, api.Survey{States: 6}, []string{"2 1"}},
		{"without an end", `fn main() { while true { sleep 1; } }`, 9, api.Survey{States: 10, Cut: true}, nil},
	} {
		for _, e := range engines(t, x.source) {
			got := explore(t, e, services(0), x.bound)
			texts := textsOfEndings(got.Endings)
			got.Endings = nil
			if !reflect.DeepEqual(got, x.want) || !slices.Equal(texts, x.endings) {
				t.Errorf("%s: Explore = %v, %q, want %v, %q", x.name, got, texts, x.want, x.endings)
			}
		}
	}
	for _, e := range engines(t, values) {
		got := textsOfEndings(explore(t, e, services(0), 14).Endings)
		want := []string{`2 "b"`, `2 -1`, `2 10`, `2 true`, `2 "b" -1`, `2 "b" 10`, `2 "b" true`, `2 -1 "b"`, `2 -1 10`, `2 -1 true`, `2 10 "b"`}
		// Whoever emits first cancels those who have not come to their second step; so the others are any of these in any order.
		if len(got) != 4+4*3+4*3*2+4*3*2*1 || !slices.Equal(got[:len(want)], want) {
			t.Errorf("%d endings, the first ones %q, want %q", len(got), got[:min(len(got), len(want))], want)
		}
	}
}

// TestP281ExploreErrors checks the errors, at and beyond each limit.
func TestP281ExploreErrors(t *testing.T) {
	e := engines(t, plays()[0])[0]
	wrong := services(0)
	wrong.Cap = -1
	for _, x := range []struct {
		name  string
		e     *world.Engine
		s     api.Spec
		bound int
		err   api.Errno
	}{
		{"nothing wrong", e, services(0), 0, api.OK},
		{"the greatest bound", e, services(0), api.MaxBound, api.OK},
		{"an engine without coroutines", &world.Engine{}, services(0), 3, api.OK},
		{"a bound below 0", e, services(0), -1, api.ErrArg},
		{"the least number", e, services(0), math.MinInt, api.ErrArg},
		{"too great a bound", e, services(0), api.MaxBound + 1, api.ErrArg},
		{"the greatest number", e, services(0), math.MaxInt, api.ErrArg},
		{"no engine", nil, services(0), 3, api.ErrArg},
		{"a wrong specification", e, wrong, 3, api.ErrArg},
		{"no services", e, api.Spec{}, 3, api.ErrArg},
	} {
		got, err := Explore(x.e, x.s, x.bound)
		if err != x.err || err != api.OK && !reflect.DeepEqual(got, api.Survey{}) || err == api.OK && got.States == 0 {
			t.Errorf("%s: %v, %d", x.name, got, err)
		}
	}
	for _, e := range engines(t, `fn main() { scope { spawn a(8); spawn a(13); spawn a(18); } } fn a(n int) { while n > 0 { yield; n = n - 1; } }`) {
		// Before main's first step there is 1 state; then 10 * 15 * 20, the last of which is reached by the step 43.
		for bound, want := range map[int]api.Survey{42: {States: api.MaxStates, Cut: true}, 43: {}} {
			got, err := Explore(e, services(0), bound)
			if !reflect.DeepEqual(got, want) || (err == api.ErrFull) != (want.States == 0) {
				t.Errorf("Explore to %d = %v, %d", bound, got, err)
			}
		}
	}
}

// TestP281Memory checks that Explore gives away and changes nothing.
func TestP281Memory(t *testing.T) {
	e, s := engines(t, plays()[0])[0], services(0)
	one := explore(t, e, s, 20)
	for _, x := range one.Endings {
		clear(x.Out)
	}
	if got := textsOfEndings(explore(t, e, s, 20).Endings); !slices.Equal(got, []string{"2 1 2", "2 2 1"}) || !reflect.DeepEqual(s, services(0)) {
		t.Errorf("%q, %v", got, s)
	}
}

// brute visits all runs by at most so many steps, as often as there are picks to them.
func brute(w *world.World, steps int, visit func(w *world.World)) {
	visit(w)
	for pick := range max(1, len(w.Ready())) {
		if next := w.Copy(); steps > 0 && next.Step(pick) == api.OK {
			brute(next, steps-1, visit)
		}
	}
}

// shorts are sources whose runs end after few steps.
func shorts() []string {
	return []string{
		`fn main() { emit 1; throw "x"; }`,
		`fn main() { sleep 1; emit 1; }`,
		`fn main() { let c = chan 0; emit 1; receive c; }`,
		`fn main() { scope { spawn a(1); throw "x"; } } fn a(n int) { emit n; yield; emit n + 1; }`,
		`fn main() { scope { spawn a(1); spawn a(2); spawn a(3); } } fn a(n int) { emit n; if n == 2 { throw "x"; } yield; }`,
		`fn main() { let l = lock 1; scope { spawn a(l, 1); hold l { yield; emit 0; } } } fn a(l lock, n int) { hold l { emit n; } }`,
		`fn main() { let c = chan 0; scope { spawn a(c, 1); spawn a(c, 2); let x = receive c; emit x; } } fn a(c chan, n int) { send c, n; }`,
		`fn main() { let c = chan 0; scope { spawn a(c, 1); spawn a(c, 2); let x = receive c; let y = receive c; yield; emit x; } } fn a(c chan, n int) { send c, n; }`, // what main knows is in its replies alone
		`fn main() { let c = chan 0; let d = chan 0; scope { spawn a(c); spawn a(d); let n = 0; select { receive x from c { n = 1; receive d; } receive x from d { n = 2; receive c; } } yield; emit n; } } fn a(c chan) { send c, 1; }`, // and here in the position of an arm
	}
}

// TestP283Brute checks, for few steps, that the endings are those of all runs, no more and no less.
func TestP283Brute(t *testing.T) {
	t.Parallel()
	endings, cuts := 0, 0
	for i, source := range append(shorts(), plays()...) {
		e := engines(t, source)[1]
		for bound := range 8 {
			s := services(0)
			if i < len(shorts()) && (bound == 3 || bound == 5) {
				s = services(0, 0)
			}
			s.Services[0].When, s.Most = 1+(i+bound)%3, 1
			seen, cut := map[string]bool{}, false
			brute(newWorld(t, e, s), bound, func(w *world.World) {
				if w.Status() != api.UnderWay {
					seen[textOfEnding(w.Status(), w.Out())] = true
				} else if len(w.Picks()) == bound {
					cut = true
				}
			})
			got := explore(t, e, s, bound)
			for _, text := range textsOfEndings(got.Endings) {
				if !seen[text] {
					t.Errorf("%s: %d: no run ends with %s", source, bound, text)
				}
				endings++
			}
			if len(got.Endings) != len(seen) || got.Cut != cut {
				t.Errorf("%s: %d: %v, but all runs: %v, %t", source, bound, got, seen, cut)
			}
			if cut {
				cuts++
			}
		}
	}
	if endings < 30 || cuts < 30 {
		t.Errorf("only %d endings, and %d cuts", endings, cuts)
	}
}

// found is what a second search knows of a state: how a run comes to it.
type found struct {
	run   *world.World
	level int
}

// search finds all states again, each of them held against all others.
func search(w *world.World, bound int) []found {
	list := []found{{w, 0}}
	isNew := func(next *world.World) bool {
		return !slices.ContainsFunc(list, func(x found) bool { return isEquivalent(x.run, next) })
	}
	for at := 0; at < len(list); at++ {
		x := list[at]
		for pick := range max(1, len(x.run.Ready())) {
			next := x.run.Copy()
			if x.level < bound && next.Step(pick) == api.OK && isNew(next) {
				list = append(list, found{next, x.level + 1})
			}
		}
	}
	return list
}

func isEquivalent(w, v *world.World) bool {
	if w.Now() != v.Now() || !slices.Equal(w.Out(), v.Out()) || snapshot.State(w) != snapshot.State(v) {
		return false
	}
	for n := 1; n <= api.MaxTasks; n++ {
		if !slices.Equal(w.Answers(n), v.Answers(n)) {
			return false
		}
	}
	return true
}

// TestP284Real checks the number of states, and that each ending is that of a run by the picks by which it was found again.
func TestP284Real(t *testing.T) {
	t.Parallel()
	states, endings := 0, 0
	for i, source := range append(shorts(), plays()...) {
		for k, e := range engines(t, source) {
			s := services(0)
			s.Services[0].When, s.Most = 1+(i+k)%3, 1
			bound := 12
			got := explore(t, e, s, bound)
			list := search(newWorld(t, e, s), bound)
			if got.States != len(list) {
				t.Errorf("%s: %d states, want %d", source, got.States, len(list))
			}
			states += len(list)
			real, cut := map[string]bool{}, false
			for _, x := range list {
				w := newWorld(t, e, s)
				if n := w.Run(x.run.Picks(), x.level); n != x.level {
					t.Fatalf("%s: %d steps, not %d", source, n, x.level)
				}
				if w.Status() == api.UnderWay {
					cut = cut || x.level == bound
					continue
				}
				real[textOfEnding(w.Status(), w.Out())] = true
			}
			texts := textsOfEndings(got.Endings)
			for _, text := range texts {
				if !real[text] {
					t.Errorf("%s: no run ends with %s", source, text)
				}
			}
			if len(texts) != len(real) || got.Cut != cut {
				t.Errorf("%s: %q, %t, want %v, %t", source, texts, got.Cut, real, cut)
			}
			endings += len(texts)
		}
	}
	if states < 1000 || endings < 25 {
		t.Errorf("only %d states, and %d endings", states, endings)
	}
}

// TestP283Complete checks that each ending of random runs is among the endings.
func TestP283Complete(t *testing.T) {
	t.Parallel()
	ended := 0
	for i, source := range plays() {
		e, s := engines(t, source)[1], services(0)
		bound := 24
		got, err := Explore(e, s, bound)
		if err == api.ErrFull {
			continue
		}
		texts := textsOfEndings(got.Endings)
		for seed := range uint64(60) {
			r := rand.New(rand.NewPCG(284, seed*10+uint64(i)))
			w := newWorld(t, e, s)
			for range bound {
				w.Step(r.IntN(1000) - 500)
			}
			if w.Status() == api.UnderWay {
				continue
			}
			ended++
			if text := textOfEnding(w.Status(), w.Out()); !slices.Contains(texts, text) {
				t.Errorf("%s: %s is not among %q", source, text, texts)
			}
		}
	}
	if ended < 120 {
		t.Errorf("only %d runs have ended", ended)
	}
}

// TestP285More checks what a greater bound adds.
func TestP285More(t *testing.T) {
	t.Parallel()
	grown, whole := 0, 0
	for _, source := range plays() {
		e := engines(t, source)[1]
		last := explore(t, e, services(0), 0)
		for bound := 1; bound <= 40; bound++ {
			next, err := Explore(e, services(0), bound)
			if err == api.ErrFull {
				break
			}
			texts := textsOfEndings(next.Endings)
			if next.States < last.States || slices.ContainsFunc(textsOfEndings(last.Endings), func(s string) bool { return !slices.Contains(texts, s) }) {
				t.Errorf("%s: %v to %d, but %v before", source, next, bound, last)
			}
			if !last.Cut && !reflect.DeepEqual(last, next) {
				t.Errorf("%s: %v to %d, but %v before, and nothing was cut", source, next, bound, last)
			}
			if !last.Cut {
				whole++
			} else {
				grown++
			}
			last = next
		}
	}
	if grown < 60 || whole < 20 {
		t.Errorf("%d surveys have grown, and %d not", grown, whole)
	}
}

// TestP281Order checks that endings are ordered and there once, as their texts have it.
func TestP281Order(t *testing.T) {
	r := rand.New(rand.NewPCG(281, 1))
	value := func() api.Value {
		return []api.Value{{}, {Kind: api.KInt, N: -2}, {Kind: api.KInt, N: 9}, {Kind: api.KInt, N: 10}, {Kind: api.KBool}, {Kind: api.KText, S: "a"}, {Kind: api.KText, S: `"`}, {Kind: api.KChan, N: 3}, {Kind: api.KLock, N: 2}, {Kind: api.KTask, N: 12}}[r.IntN(10)]
	}
	x := newExplorer()
	seen := map[string]bool{}
	for range 500 {
		e := api.Ending{Status: 2 + r.IntN(2)}
		for range r.IntN(4) {
			e.Out = append(e.Out, value())
		}
		x.endings = append(x.endings, ending{e, textsOf(e.Out)})
		seen[textOfEnding(e.Status, e.Out)] = true
	}
	list := x.survey().Endings
	if len(list) != len(seen) {
		t.Errorf("%d endings, want %d", len(list), len(seen))
	}
	for i, e := range list[1:] {
		last := list[i]
		less := last.Status < e.Status || last.Status == e.Status && len(last.Out) < len(e.Out)
		if last.Status == e.Status && len(last.Out) == len(e.Out) {
			less = slices.Compare(textsOf(last.Out), textsOf(e.Out)) < 0
		}
		if !less {
			t.Errorf("%v before %v", last, e)
		}
	}
}
