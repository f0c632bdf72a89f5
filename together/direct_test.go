package together

import (
	"reflect"
	"slices"
	"testing"

	"seedbed/api"
	"seedbed/direct"
	"seedbed/kinds"
	"seedbed/syntax"
)

// rough is a world in which much goes wrong.
func rough(m *maker) world { return world{m.r, 8, 8} }

// kindsOf returns the kinds of what an ask has in its fields, and those that they should have.
func kindsOf(p api.Program, a api.Ask) (got, want []int) {
	wants := map[int][2]int{
		api.AAwait: {api.KTask}, api.ACancel: {api.KTask}, api.ASend: {api.KChan, api.KInt}, api.AReceive: {api.KChan}, api.AClose: {api.KChan}, api.AHold: {api.KLock}, api.AFree: {api.KLock},
	}
	if a.Kind == api.AEmit {
		return []int{min(a.V.Kind, 1)}, []int{1} // any value but a unit
	}
	got, want = []int{a.V.Kind, a.W.Kind}, []int{wants[a.Kind][0], wants[a.Kind][1]}
	for _, v := range a.Args {
		got = append(got, v.Kind)
	}
	if a.Kind == api.ASpawn {
		for _, q := range p.Funcs[a.Fn].Params {
			want = append(want, q.Kind)
		}
		if p.Funcs[a.Fn].Flow {
			want = append(want, api.KChan)
		}
	}
	arms := map[int][2]int{api.CReceive: {api.KChan}, api.CSend: {api.KChan, api.KInt}, api.CAfter: {}}
	for _, arm := range a.Arms {
		got, want = append(got, arm.V.Kind, arm.W.Kind), append(want, arms[arm.Op][0], arms[arm.Op][1])
	}
	return got, want
}

// TestP53Runs checks that coroutines of sound programs never ask for a value of a wrong kind, and end with what they should, and never with kind (P7 of DOC.md); and that what they open is nested, whatever the replies are (P8.4).
func TestP53Runs(t *testing.T) {
	t.Parallel()
	asked, deepest := map[int]int{}, 0
	runs(t, 700, rough, func(x run) {
		deepest = max(deepest, wantNested(t, x))
		for _, turn := range x.turns {
			asked[turn.Ask.Kind]++
			got, want := kindsOf(x.p, turn.Ask)
			if !turn.Done && !slices.Equal(got, want) {
				t.Fatalf("%s: function %d asks for %v", x.source, x.fn, turn.Ask)
			}
		}
		if !x.isDone() {
			return
		}
		if f := x.last().Fault; f.Text == "kind" || f == (api.Fault{}) && x.last().V.Kind != x.p.Funcs[x.fn].Result {
			t.Fatalf("%s: function %d after %v ends with %v", x.source, x.fn, x.answers, x.last())
		}
	})
	for ask := api.AYield; ask <= api.ARelease; ask++ {
		if asked[ask] < 5 {
			t.Errorf("only %d ask for %d", asked[ask], ask)
		}
	}
	if deepest < 4 {
		t.Errorf("at most %d are nested", deepest)
	}
}

// nesting is a stack of what is open.
type nesting []api.Ask

// closing returns the ask that closes what another one opens.
func closing(a api.Ask) (api.Ask, bool) {
	switch a.Kind {
	case api.AOpen:
		return api.Ask{Kind: api.ALeave}, true
	case api.AShield:
		return api.Ask{Kind: api.AUnveil}, true
	case api.AAcquire:
		return api.Ask{Kind: api.ARelease, N: a.N}, true
	case api.AHold:
		return api.Ask{Kind: api.AFree, V: a.V}, true
	}
	return api.Ask{}, false
}

// follow reports whether an ask is nested in what is open.
func (n *nesting) follow(a api.Ask, r api.Answer) bool {
	if shut, opens := closing(a); opens {
		if r.Fault == (api.Fault{}) {
			*n = append(*n, shut)
		}
		return true
	}
	switch a.Kind {
	case api.ALeave, api.AUnveil, api.ARelease, api.AFree:
		a.Fault = api.Fault{}
		last := len(*n) - 1
		if last < 0 || !reflect.DeepEqual((*n)[last], a) {
			return false
		}
		*n = (*n)[:last]
	}
	return true
}

// wantNested checks that what is opened is closed, the last one first, and returns how much is open at once.
func wantNested(t *testing.T, x run) int {
	var open nesting
	deepest := 0
	for i, r := range x.answers {
		if !open.follow(x.turns[i].Ask, r) {
			t.Fatalf("%s: function %d after %v: the ask %v is not nested", x.source, x.fn, x.answers[:i], x.turns[i].Ask)
		}
		deepest = max(deepest, len(open))
	}
	if x.isDone() && len(open) > 0 {
		t.Fatalf("%s: function %d after %v leaves %v", x.source, x.fn, x.answers, open)
	}
	return deepest
}

// TestP84First checks that the turns for fewer replies are the first ones of those for more.
func TestP84First(t *testing.T) {
	t.Parallel()
	runs(t, 150, rough, func(x run) {
		for n := range len(x.answers) + 1 {
			got, err := direct.All(x.p, x.fn, x.args, x.answers[:n])
			if x.fuel && n == len(x.turns) {
				continue
			}
			if err != api.OK || !reflect.DeepEqual(got, x.turns[:n+1]) {
				t.Fatalf("%s: All(%d, %v, %v) = %v, %d, want %v", x.source, x.fn, x.args, x.answers[:n], got, err, x.turns[:n+1])
			}
		}
	})
}

// TestP83Usual checks that Alone gives each ask its usual reply.
func TestP83Usual(t *testing.T) {
	t.Parallel()
	sound(t, 400, func(source string, p api.Program, m *maker, _ uint64) {
		fn := m.r.IntN(len(p.Funcs))
		args, most := argsOf(m.r, p.Funcs[fn]), 1+m.r.IntN(20)
		got, err := direct.Alone(p, fn, args, most)
		var want []api.Turn
		var answers []api.Answer
		wantErr := api.OK
		for len(want) < most && wantErr == api.OK {
			var turn api.Turn
			if turn, wantErr = direct.Next(p, fn, args, answers); wantErr != api.OK {
				want = nil
				break
			}
			want = append(want, turn)
			if turn.Done {
				break
			}
			usual, _ := direct.Usual(turn.Ask, len(answers))
			answers = append(answers, usual)
		}
		if err != wantErr || !reflect.DeepEqual(got, want) {
			t.Fatalf("%s: Alone(%d, %v, %d) = %v, %d, want %v, %d", source, fn, args, most, got, err, want, wantErr)
		}
	})
}

// TestP84Straight checks that the kinds of asks do not depend on the values of replies in programs in which nothing can.
func TestP84Straight(t *testing.T) {
	t.Parallel()
	asks := 0
	for seed := range uint64(600) {
		m := newMaker(seed, -1)
		m.straight = true
		source := m.program()
		p, _, err := syntax.Parse(source)
		if err == api.ErrFull {
			continue
		}
		if _, other := kinds.Check(p); err != api.OK || other != api.OK {
			t.Fatalf("%s: %d, %d", source, err, other)
		}
		w := world{r: m.r}
		for fn := range p.Funcs {
			one, two := w.execute(t, source, p, fn, 20), w.execute(t, source, p, fn, 20)
			if !slices.Equal(kindsAsked(one), kindsAsked(two)) || one.last().Done != two.last().Done {
				t.Fatalf("%s: function %d asks for %v or %v", source, fn, kindsAsked(one), kindsAsked(two))
			}
			asks += len(one.answers)
		}
	}
	if asks < 3000 {
		t.Errorf("only %d asks", asks)
	}
}

func kindsAsked(x run) []int {
	var list []int
	for _, turn := range x.turns {
		list = append(list, turn.Ask.Kind)
	}
	return list
}
