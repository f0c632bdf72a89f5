package audit

import (
	"math/rand/v2"
	"slices"
	"testing"

	"seedbed/api"
)

// wantSecond checks the findings of events, and counts the rules that they break.
func wantSecond(t *testing.T, l []api.Event, rules map[int]int) {
	t.Helper()
	got := Check(l)
	if want := second(l); !slices.Equal(got, want) {
		t.Fatalf("Check(%s) = %s, want %s", textOfEvents(l), textOfFindings(got), textOfFindings(want))
	}
	for _, f := range got {
		rules[f.Rule]++
	}
}

func wantRules(t *testing.T, rules map[int]int, least int) {
	t.Helper()
	for rule := 1; rule <= 11; rule++ {
		if rules[rule] < least {
			t.Errorf("rule %d is broken only %d times", rule, rules[rule])
		}
	}
}

// TestP281Random holds Check of random events against the second check.
func TestP281Random(t *testing.T) {
	t.Parallel()
	rules := map[int]int{}
	for seed := range uint64(4000) {
		r := rand.New(rand.NewPCG(281, seed))
		often := [][]int{{api.VStart, api.VOpen, api.VLeft}, {api.VAcquire, api.VAcquire, api.VRelease}}[seed%2]
		var l []api.Event
		for range r.IntN(40) {
			kind := r.IntN(23)
			if r.IntN(2) == 0 {
				kind = often[r.IntN(3)]
			}
			l = append(l, api.Event{At: -(r.IntN(12) / 11), Task: r.IntN(4), Kind: kind, N: r.IntN(3)})
		}
		wantSecond(t, l, rules)
	}
	wantRules(t, rules, 300)
}

// change changes events a little.
func change(r *rand.Rand, l []api.Event) []api.Event {
	l = slices.Clone(l)
	for range 1 + r.IntN(3) {
		at := r.IntN(len(l))
		e := l[at]
		switch r.IntN(6) {
		case 0:
			l[at], l[len(l)-1] = l[len(l)-1], e
		case 1:
			l = slices.Insert(slices.Delete(l, at, at+1), r.IntN(len(l)), e)
		case 2:
			l = slices.Insert(l, r.IntN(len(l)), e)
		case 3:
			l[at].Task = r.IntN(5)
		case 4:
			l[at].N = r.IntN(4)
		case 5:
			l[at].Kind = r.IntN(23)
		}
	}
	return l
}

// TestP281Changed holds Check of traces of runs that were changed against the second check.
func TestP281Changed(t *testing.T) {
	t.Parallel()
	rules, clean := map[int]int{}, 0
	for i, source := range plays() {
		both := engines(t, source)
		for seed := range uint64(60) {
			r := rand.New(rand.NewPCG(282, seed*10+uint64(i)))
			w := newWorld(t, both[seed%2], services(0))
			for range 60 {
				w.Step(r.IntN(60))
			}
			l := w.Trace()
			if len(Check(l)) == 0 {
				clean++
			}
			for range 5 {
				wantSecond(t, change(r, l), rules)
			}
		}
	}
	wantRules(t, rules, 20)
	if clean != 60*len(plays()) {
		t.Errorf("only %d traces break nothing", clean)
	}
}
