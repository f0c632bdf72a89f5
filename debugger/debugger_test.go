package debugger

import (
	"math"
	"reflect"
	"slices"
	"testing"

	"seedbed/api"
	"seedbed/snapshot"
	"seedbed/world"
)

const ticker = `fn main() { let i = 0; while i < 50 { emit i; yield; i = i + 1; } }`

// TestP271New checks which sessions there are, and how long they are.
func TestP271New(t *testing.T) {
	e := engines(t, ticker)[0]
	most := make([]int, api.MaxPicks)
	for _, x := range []struct {
		name  string
		e     *world.Engine
		s     api.Spec
		picks []int
		err   api.Errno
		size  int
	}{
		{"no picks", e, services(0), nil, api.OK, 0},
		{"some picks", e, services(0), []int{7, -3, math.MinInt, math.MaxInt}, api.OK, 4},
		{"more picks than steps", e, services(0), most, api.OK, 51},
		{"two services", e, services(0, 0), make([]int, 80), api.OK, 80},
		{"an engine without coroutines", &world.Engine{}, services(0), most, api.OK, 1},
		{"too many picks", e, services(0), make([]int, api.MaxPicks+1), api.ErrArg, 0},
		{"no engine", nil, services(0), nil, api.ErrArg, 0},
		{"no services", e, api.Spec{Rule: api.ROne, Within: 1}, nil, api.ErrArg, 0},
		{"a wrong specification", e, api.Spec{Rule: 4, Within: 1, Services: services(0).Services}, nil, api.ErrArg, 0},
		{"nothing that is right", nil, api.Spec{}, make([]int, api.MaxPicks+1), api.ErrArg, 0},
	} {
		s, err := New(x.e, x.s, x.picks)
		if err != x.err || (s == nil) != (err != api.OK) || s.Len() != x.size || s.At() != 0 {
			t.Errorf("%s: %d, Len = %d, At = %d", x.name, err, s.Len(), s.At())
		}
		if s != nil {
			wantSame(t, s.World(), runOf(t, x.e, x.s, nil))
		}
	}
}

// TestP271Nil checks sessions that are nil, or that New has not made.
func TestP271Nil(t *testing.T) {
	for _, s := range []*Session{nil, {}} {
		if s.At() != 0 || s.Len() != 0 || s.World() != nil {
			t.Errorf("At = %d, Len = %d, World = %v", s.At(), s.Len(), s.World())
		}
		for _, n := range []int{0, 1, -1, math.MaxInt, math.MinInt} {
			if err := s.Go(n); err != api.ErrArg {
				t.Errorf("Go(%d) = %d", n, err)
			}
			if l, err := s.Events(n); l != nil || err != api.ErrArg {
				t.Errorf("Events(%d) = %v, %d", n, l, err)
			}
			if p, err := s.Find(api.Break{Task: n}, n == 1); p != 0 || err != api.ErrArg {
				t.Errorf("Find = %d, %d", p, err)
			}
			if l, err := s.Why(n); l != nil || err != api.ErrArg {
				t.Errorf("Why(%d) = %v, %d", n, l, err)
			}
			if x, err := s.Fork(n, []int{1}); x != nil || err != api.ErrArg {
				t.Errorf("Fork(%d) = %v, %d", n, x, err)
			}
		}
	}
}

// TestP271Go checks positions at and beyond both ends.
func TestP271Go(t *testing.T) {
	s := session(t, ticker, make([]int, 40)...)
	wantGo(t, s, 7)
	for _, p := range []int{-1, 41, math.MaxInt, math.MinInt} {
		if err := s.Go(p); err != api.ErrArg {
			t.Errorf("Go(%d) = %d", p, err)
		}
		wantAt(t, s, 7)
	}
	for _, p := range []int{40, 0, 40, 39, 16, 15, 17, 32, 31, 33, 33, 0} {
		wantGo(t, s, p)
		if out := s.World().Out(); len(out) != p {
			t.Errorf("%d: Out = %v", p, out)
		}
	}
}

// TestP271Example checks the first example.
func TestP271Example(t *testing.T) {
	for _, e := range engines(t, plays()[0]) {
		picks := []int{0, 2, 1, 1, 0, 3, 2, 1, 0, 5}
		s := newSession(t, e, services(0), picks)
		if s.Len() != 10 {
			t.Fatalf("Len = %d", s.Len())
		}
		wantGo(t, s, 7)
		wantGo(t, s, 3)
		wantSame(t, s.World(), runOf(t, e, services(0), picks[:3]))
	}
}

// TestP271Events checks the events of steps.
func TestP271Events(t *testing.T) {
	s := session(t, `fn main() { emit 1; sleep 2; emit 2; }`, 0, 0, 0, 0)
	want := [][]api.Event{
		{{Task: 1, Kind: api.VEmit, V: api.Value{Kind: api.KInt, N: 1}}, {Task: 1, Kind: api.VWait, N: api.ASleep}},
		{{At: 2, Kind: api.VTime}, {At: 2, Task: 1, Kind: api.VGo, N: api.ASleep}},
		{{At: 2, Task: 1, Kind: api.VEmit, V: api.Value{Kind: api.KInt, N: 2}}, {At: 2, Task: 1, Kind: api.VEnd}, {At: 2, Kind: api.VOrder, M: api.ODone}},
	}
	for _, at := range []int{0, 3, 1} {
		wantGo(t, s, at)
		for p, events := range want {
			got, err := s.Events(p)
			if !slices.Equal(got, events) || err != api.OK {
				t.Errorf("Events(%d) = %v, %d, want %v", p, got, err, events)
			}
			clear(got)
			if again, _ := s.Events(p); !slices.Equal(again, events) {
				t.Errorf("Events(%d) = %v then", p, again)
			}
		}
		wantAt(t, s, at)
	}
	for _, p := range []int{-1, 3, 4, math.MaxInt, math.MinInt} {
		if l, err := s.Events(p); l != nil || err != api.ErrArg {
			t.Errorf("Events(%d) = %v, %d", p, l, err)
		}
	}
}

// TestP271Find checks where there is what is looked for, and where there is not.
func TestP271Find(t *testing.T) {
	// The steps: main spawns 2 and 3; 2 emits and waits; 3 emits and ends; time; 2 emits and ends, main continues; main ends.
	s := session(t, `fn main() { scope { spawn a(1); spawn a(0); } } fn a(n int) { emit n; sleep n; if n > 0 { emit n; } }`, 0, 0, 0, 0, 0, 0, 0, 0)
	if s.Len() != 7 {
		t.Fatalf("Len = %d: %v", s.Len(), s.World().Trace())
	}
	for _, x := range []struct {
		from int
		b    api.Break
		back bool
		want int
	}{
		{0, api.Break{Kind: api.VEmit}, false, 2},
		{1, api.Break{Kind: api.VEmit}, false, 2},
		{2, api.Break{Kind: api.VEmit}, false, 3},
		{3, api.Break{Kind: api.VEmit}, false, 6},
		{6, api.Break{Kind: api.VEmit}, false, 0},
		{7, api.Break{Kind: api.VEmit}, false, 0},
		{7, api.Break{Kind: api.VEmit}, true, 6},
		{6, api.Break{Kind: api.VEmit}, true, 3},
		{2, api.Break{Kind: api.VEmit}, true, 0},
		{0, api.Break{Kind: api.VEmit}, true, 0},
		{0, api.Break{Kind: api.VEmit, Task: 3}, false, 3},
		{3, api.Break{Kind: api.VEmit, Task: 3}, false, 0},
		{0, api.Break{Kind: api.VEmit, Task: 1}, false, 0},
		{7, api.Break{Task: 2}, true, 6},
		{0, api.Break{Task: 2}, false, 1},
		{0, api.Break{}, false, 1},
		{6, api.Break{}, false, 7},
		{7, api.Break{}, false, 0},
		{7, api.Break{}, true, 6},
		{2, api.Break{}, true, 1},
		{1, api.Break{}, true, 0},
		{0, api.Break{}, true, 0},
		{0, api.Break{Kind: api.VTime}, false, 5},
		{0, api.Break{Kind: api.VTime, Task: 1}, false, 0},
		{0, api.Break{Kind: api.VStart, Task: 1}, false, 0}, // that is before the first step
		{7, api.Break{Kind: api.VStart}, true, 1},
		{0, api.Break{Kind: -1}, false, 0},
		{0, api.Break{Kind: 23}, false, 0},
		{7, api.Break{Task: -1}, true, 0},
		{3, api.Break{Kind: math.MinInt, Task: math.MaxInt}, true, 0},
	} {
		wantGo(t, s, x.from)
		want, at := api.OK, x.want
		if x.want == 0 {
			want, at = api.ErrNone, x.from
		}
		if p, err := s.Find(x.b, x.back); p != x.want || err != want {
			t.Errorf("Find(%v, %t) from %d = %d, %d, want %d, %d", x.b, x.back, x.from, p, err, x.want, want)
		}
		wantAt(t, s, at)
	}
}

// TestP271Fork checks which picks a fork has.
func TestP271Fork(t *testing.T) {
	e := engines(t, plays()[0])[0]
	picks := []int{0, 5, 1, 4, 2, 3, -7, 2, 1, 1, 6, 2, 0, 9, 1, 3, 2, 1, 0, 4}
	s := newSession(t, e, services(0, 0), picks)
	wantGo(t, s, 6)
	for _, x := range []struct {
		p     int
		picks []int
	}{{0, nil}, {0, []int{1, 2, 3}}, {7, nil}, {7, []int{4, 4}}, {17, []int{5, 1, 0, 2}}, {20, []int{3, 3}}, {20, make([]int, api.MaxPicks-20)}} {
		given := slices.Clone(x.picks)
		f, err := s.Fork(x.p, x.picks)
		if err != api.OK || f.At() != 0 {
			t.Fatalf("Fork(%d, %v): %d, At = %d", x.p, x.picks, err, f.At())
		}
		all := slices.Concat(picks[:x.p], x.picks)
		want := runOf(t, e, services(0, 0), all)
		if f.Len() != len(want.Picks()) {
			t.Errorf("Fork(%d, %v): Len = %d, want %d", x.p, x.picks, f.Len(), len(want.Picks()))
		}
		wantGo(t, f, f.Len())
		wantSame(t, f.World(), want)
		clear(x.picks)
		wantGo(t, f, f.Len())
		wantSame(t, f.World(), want)
		clear(given)
		wantAt(t, s, 6)
	}
	for _, p := range []int{-1, 21, math.MaxInt, math.MinInt} {
		if f, err := s.Fork(p, nil); f != nil || err != api.ErrArg {
			t.Errorf("Fork(%d) = %v, %d", p, f, err)
		}
	}
	if f, err := s.Fork(1, make([]int, api.MaxPicks)); f != nil || err != api.ErrArg {
		t.Errorf("a fork with too many picks: %v, %d", f, err)
	}
	again := api.Spec{Rule: api.RAll, Most: 2, Within: 7, Base: 1, Cap: 3, Services: []api.Service{{When: api.WAlways}, {When: api.WFailed}}}
	if f, err := newSession(t, e, again, picks).Fork(4, picks); err != api.OK || !reflect.DeepEqual(f.World().Spec(), again) {
		t.Errorf("Fork: %d, %v", err, f.World().Spec())
	}
	// What stands behind the steps that could be made is no part of a session.
	short := session(t, `fn main() { yield; }`, 0, 0, 5, 5, 5)
	if f, err := short.Fork(3, nil); short.Len() != 2 || f != nil || err != api.ErrArg {
		t.Errorf("Len = %d, Fork = %v, %d", short.Len(), f, err)
	}
}

// TestP271Memory checks that a session keeps nothing that it is given, and gives away nothing that it keeps.
func TestP271Memory(t *testing.T) {
	e := engines(t, ticker)[1]
	spec, picks := services(0, 0), slices.Repeat([]int{3, 1, 2, 0, 7}, 8)
	want := runOf(t, e, spec, picks)
	s := newSession(t, e, spec, picks)
	clear(spec.Services)
	clear(picks)
	for _, p := range []int{0, 16, 21, 40} {
		wantGo(t, s, p)
		w := s.World()
		w.Run(picks, 100)
		clear(w.Trace())
		wantAt(t, s, p)
		wantGo(t, s, 40)
		wantSame(t, s.World(), want)
	}
	f, _ := s.Fork(40, nil)
	wantGo(t, f, 40)
	wantSame(t, f.World(), want)
}

// TestP272Marks checks where a session keeps copies, and that what it makes of them is no other run.
func TestP272Marks(t *testing.T) {
	s := session(t, ticker, make([]int, 40)...)
	for _, p := range []int{0, 40, 16, 17, 3, 32} {
		wantGo(t, s, p)
		if len(s.marks) != 3 {
			t.Fatalf("there are %d copies", len(s.marks))
		}
		for at, w := range s.marks {
			if at%16 != 0 || len(w.Picks()) != at {
				t.Errorf("the copy at %d has made %d steps: %s", at, len(w.Picks()), snapshot.State(w))
			}
		}
	}
}
