package trace

import (
	"math/rand/v2"
	"slices"
	"strconv"
	"strings"
	"testing"

	"seedbed/api"
)

// classes are those of the chapter: names of kinds, with the names of asks behind those that have them.
var classes = classesOf(`emit
start open leave left strike cancel late end order shield unveil wait:await wait:leave go:await go:leave
make close wait:send wait:receive wait:select wait:sleep go:send go:receive go:select go:sleep
lock free wait:hold go:hold`)

var (
	kindNames = strings.Split(" start wait go emit open leave shield unveil strike cancel late acquire release leak make close lock free order time end left", " ")
	askNames  = strings.Split(" yield sleep emit now spawn await cancel chan send receive close lock hold free select open leave shield unveil acquire release", " ")
)

// classesOf returns the classes by their names, numbered from 1 on.
func classesOf(text string) map[string]int {
	list := map[string]int{}
	for i, class := range strings.Split(text, "\n") {
		for _, name := range strings.Fields(class) {
			list[name] = i + 1
		}
	}
	return list
}

// nameOf is the name of an event in the classes.
func nameOf(e api.Event) string {
	if e.Kind < 0 || e.Kind >= len(kindNames) {
		return "?"
	}
	name := kindNames[e.Kind]
	if (e.Kind == api.VWait || e.Kind == api.VGo) && e.N >= 0 && e.N < len(askNames) {
		name += ":" + askNames[e.N]
	}
	return name
}

// areDependent is Dependent in the words of the chapter.
func areDependent(a, b api.Event) bool {
	one, two := nameOf(a), nameOf(b)
	return a.Task == b.Task || one == "time" || two == "time" || classes[one] > 0 && classes[one] == classes[two]
}

// TestP251Dependent checks all pairs of kinds, of VWait and VGo with all asks.
func TestP251Dependent(t *testing.T) {
	var list []api.Event
	for kind := -1; kind <= api.VLeft+1; kind++ {
		list = append(list, api.Event{Kind: kind, N: -7})
		for n := -1; n <= api.ARelease+1; n++ {
			list = append(list, api.Event{Kind: kind, N: n})
		}
	}
	dependent := 0
	for _, a := range list {
		for _, b := range list {
			for task := range 3 {
				a.Task, b.Task = 1, task
				want := areDependent(a, b)
				if Dependent(a, b) != want || Dependent(b, a) != want {
					t.Fatalf("Dependent(%v, %v) = %t", a, b, !want)
				}
				if want && task != 1 {
					dependent++
				}
			}
		}
	}
	if dependent < 10000 {
		t.Errorf("only %d are dependent", dependent)
	}
	a, b := emit(3, 1, 5), emit(9, 2, 4)
	a.V.Kind, b.Fault.Kind = 99, -99
	if !Dependent(a, b) || !Dependent(api.Event{}, api.Event{}) || Dependent(api.Event{}, api.Event{Task: -1}) {
		t.Error("Dependent of any events")
	}
}

// formOf is the normal form by its definition.
func formOf(l []api.Event) [][]string {
	var form [][]string
	levels := make([]int, len(l))
	for i, e := range l {
		for j := range i {
			if areDependent(l[j], e) {
				levels[i] = max(levels[i], levels[j]+1)
			}
		}
		for len(form) <= levels[i] {
			form = append(form, nil)
		}
		text, _ := Text(l[i : i+1])
		form[levels[i]] = append(form[levels[i]], text)
	}
	for _, level := range form {
		slices.Sort(level)
	}
	return form
}

func textOf(l []api.Event) string {
	text, _ := Text(l)
	return text
}

// wantForm checks the normal form of a trace, and P25.4.
func wantForm(t *testing.T, l []api.Event, want [][]string) {
	t.Helper()
	form, err := Foata(l)
	var texts [][]string
	for _, level := range form {
		var lines []string
		for _, e := range level {
			lines = append(lines, textOf([]api.Event{e}))
		}
		texts = append(texts, lines)
	}
	if !slices.EqualFunc(texts, want, slices.Equal) || err != api.OK {
		t.Fatalf("Foata(%v) = %q, %d, want %q", l, texts, err, want)
	}
	flat := slices.Concat(form...)
	again, err := Foata(flat)
	if !slices.EqualFunc(form, again, slices.Equal) || err != api.OK || !Same(l, flat) || !Same(flat, l) {
		t.Fatalf("P25.4: %v has the normal form %v, %d", flat, again, err)
	}
}

// TestP251Foata checks small normal forms.
func TestP251Foata(t *testing.T) {
	acquire := func(task, n int) api.Event { return api.Event{Task: task, Kind: api.VAcquire, N: n} }
	gets := func(task int) api.Event { return api.Event{Task: task, Kind: api.VLock, N: task} }
	time := api.Event{At: 2, Kind: api.VTime}
	for want, l := range map[string][]api.Event{
		"":                                   nil,
		"a1 a2":                              {acquire(2, 2), acquire(1, 1)},
		"a1|a2":                              {acquire(3, 1), acquire(3, 2)},
		"a2|a1":                              {acquire(3, 2), acquire(3, 1)},
		"e1|e2":                              {emit(0, 1, 1), emit(0, 2, 2)},
		"e2|e1":                              {emit(0, 2, 2), emit(0, 1, 1)},
		"a1|t|a2":                            {acquire(1, 1), time, acquire(2, 2)},
		"a1 a2|t":                            {acquire(2, 2), acquire(1, 1), time},
		"e1 a2|l1 e2|a1 l2":                  {emit(0, 1, 1), acquire(2, 2), gets(1), emit(0, 2, 2), acquire(1, 1), gets(2)},
		"a1 a10 a2":                          {acquire(2, 2), acquire(10, 10), acquire(1, 1)},
		"e1 l2|l1 e2|a1 a2|t|e3|a7|a8|a9|a0": {emit(0, 1, 1), gets(2), gets(1), emit(0, 2, 2), acquire(1, 1), acquire(2, 2), time, emit(2, 4, 3), acquire(4, 7), acquire(4, 8), acquire(4, 9), acquire(4, 0)},
	} {
		form, err := Foata(l)
		var levels []string
		for _, level := range form {
			var names []string
			for _, e := range level {
				name := kinds[e.Kind][:1]
				if e.Kind != api.VTime {
					name += strconv.Itoa(e.N + e.V.N)
				}
				names = append(names, name)
			}
			levels = append(levels, strings.Join(names, " "))
		}
		if got := strings.Join(levels, "|"); got != want || err != api.OK {
			t.Errorf("Foata = %s, %d, want %s", got, err, want)
		}
	}
}

// anyEvent makes a valid event at a time; events of few tasks and kinds often have nothing to do with each other.
func anyEvent(r *rand.Rand) api.Event {
	kinds := []int{api.VEmit, api.VAcquire, api.VRelease, api.VAcquire, api.VMake, api.VLock, api.VOpen, api.VWait, api.VGo, api.VLeak, api.VTime}
	e := api.Event{Task: r.IntN(4), Kind: kinds[r.IntN(len(kinds))], N: r.IntN(4)}
	if e.Kind == api.VTime && r.IntN(2) == 0 {
		e.Kind = api.VFree
	}
	if e.Kind == api.VWait || e.Kind == api.VGo {
		e.N = []int{api.AYield, api.ASleep, api.AAwait, api.ASend, api.AReceive, api.AHold, api.ASelect, api.ALeave}[r.IntN(8)]
	}
	return e
}

func anyTrace(r *rand.Rand, most int) []api.Event {
	var l []api.Event
	for range r.IntN(most + 1) {
		l = append(l, anyEvent(r))
	}
	return l
}

// TestP251Random holds normal forms of random traces against their definition.
func TestP251Random(t *testing.T) {
	r := rand.New(rand.NewPCG(25, 1))
	for range 3000 {
		l := anyTrace(r, 30)
		wantForm(t, l, formOf(l))
	}
}

// exchanged returns all traces that can be made of one by exchanging neighbours that are not dependent.
func exchanged(l []api.Event) map[string][]api.Event {
	found := map[string][]api.Event{textOf(l): l}
	todo := [][]api.Event{l}
	for len(todo) > 0 {
		one := todo[0]
		todo = todo[1:]
		for i := 1; i < len(one); i++ {
			if areDependent(one[i-1], one[i]) {
				continue
			}
			other := slices.Clone(one)
			other[i-1], other[i] = one[i], one[i-1]
			if _, ok := found[textOf(other)]; !ok {
				found[textOf(other)] = other
				todo = append(todo, other)
			}
		}
	}
	return found
}

// permuted visits all orders of events.
func permuted(l []api.Event, visit func([]api.Event)) {
	var place func(n int)
	place = func(n int) {
		if n == len(l) {
			visit(l)
			return
		}
		for i := n; i < len(l); i++ {
			l[n], l[i] = l[i], l[n]
			place(n + 1)
			l[n], l[i] = l[i], l[n]
		}
	}
	place(0)
}

// TestP253Swaps checks that the orders of some events that have the same normal form are those that exchanges lead to; and P25.5 for them.
func TestP253Swaps(t *testing.T) {
	r := rand.New(rand.NewPCG(25, 3))
	same, others := 0, 0
	for range 4000 {
		l := anyTrace(r, 5)
		reached := exchanged(l)
		permuted(slices.Clone(l), func(other []api.Event) {
			_, want := reached[textOf(other)]
			if Same(l, other) != want {
				t.Fatalf("Same(%v, %v) = %t", l, other, !want)
			}
			if !want {
				others++
				return
			}
			same++
			wantTasks(t, l, other)
		})
	}
	if same < 10000 || others < 10000 {
		t.Errorf("only %d are the same, and %d are not", same, others)
	}
}

// wantTasks is P25.5.
func wantTasks(t *testing.T, a, b []api.Event) {
	t.Helper()
	for task := range api.MaxTasks + 1 {
		if !slices.Equal(Of(a, task), Of(b, task)) {
			t.Fatalf("the task %d has other events in %v than in %v", task, a, b)
		}
	}
}

// TestP253Others checks that traces with other events are not the same.
func TestP253Others(t *testing.T) {
	r := rand.New(rand.NewPCG(25, 33))
	for range 1000 {
		l := append(anyTrace(r, 8), anyEvent(r))
		at := r.IntN(len(l))
		without := slices.Delete(slices.Clone(l), at, at+1)
		twice := slices.Insert(slices.Clone(l), at, l[at])
		later := slices.Clone(l)
		later[at].At++
		for _, other := range [][]api.Event{without, twice, later, nil} {
			if Same(l, other) || Same(other, l) {
				t.Fatalf("%v and %v are the same", l, other)
			}
		}
	}
	if !Same(nil, nil) || !Same(nil, []api.Event{}) {
		t.Error("nothing is not the same as nothing")
	}
}

// TestP255Tasks checks long traces after many exchanges.
func TestP255Tasks(t *testing.T) {
	r := rand.New(rand.NewPCG(25, 5))
	for range 50 {
		l := anyTrace(r, api.MaxFoata)
		other := slices.Clone(l)
		for range 4000 {
			if i := r.IntN(len(l) + 1); i > 0 && i < len(l) && !areDependent(other[i-1], other[i]) {
				other[i-1], other[i] = other[i], other[i-1]
			}
		}
		if !Same(l, other) {
			t.Fatalf("%v and %v are not the same", l, other)
		}
		wantTasks(t, l, other)
	}
}
