package debugger

import (
	"math"
	"slices"
	"testing"

	"seedbed/api"
)

// wantWhy checks for whom a task waits at a position.
func wantWhy(t *testing.T, s *Session, task int, want ...int) {
	t.Helper()
	if l, err := s.Why(task); !slices.Equal(l, want) || err != api.OK {
		t.Errorf("Why(%d) at %d = %v, %d, want %v; %v", task, s.At(), l, err, want, s.World().Trace())
	}
}

// TestP271Why checks for whom tasks wait, directly and not.
func TestP271Why(t *testing.T) {
	for _, x := range []struct {
		name, source string
		picks        []int
		want         [][]int // for the tasks from 1 on
	}{
		{"ready", `fn main() { yield; }`, []int{0}, [][]int{nil}},
		{"before the first step", `fn main() { yield; }`, nil, [][]int{nil}},
		{"ended", `fn main() { }`, []int{0}, [][]int{nil}},
		{"sleeps", `fn main() { sleep 1; }`, []int{0}, [][]int{nil}},
		{"receives", `fn main() { let c = chan 0; scope { spawn a(c); receive c; } } fn a(c chan) { yield; }`, []int{0}, [][]int{nil, nil}},
		{"selects", `fn main() { let c = chan 0; scope { spawn a(c); select { receive x from c { } after 3 { } } } } fn a(c chan) { send c, 1; }`, []int{0}, [][]int{nil, nil}},
		{"sends", `fn main() { let c = chan 0; send c, 1; }`, []int{0}, [][]int{nil}},
		{"awaits", `fn main() { scope { spawn a(); let t = spawn a(); await t; } } fn a() { yield; }`, []int{0}, [][]int{{3}, nil, nil}},
		{"awaits one that waits", `fn main() { scope { let t = spawn a(); let u = spawn b(t); await u; } } fn a() { yield; } fn b(t task) { await t; }`, []int{0, 1}, [][]int{{2, 3}, nil, {2}}},
		{"awaits, and is ready again", `fn main() { scope { let t = spawn a(); await t; yield; } } fn a() { }`, []int{0, 0}, [][]int{nil, nil}},
		{"leaves", `fn main() { scope { spawn a(); spawn b(); spawn a(); } } fn a() { yield; } fn b() { }`, []int{0, 1}, [][]int{{2, 4}, nil, nil, nil}},
		{"leaves a scope in another one", `fn main() { scope { spawn a(); scope { spawn a(); } } } fn a() { yield; }`, []int{0}, [][]int{{3}, nil, nil}},
		{"leaves the outer one", `fn main() { scope { spawn a(); scope { spawn a(); } } } fn a() { }`, []int{0, 1, 0}, [][]int{{2}, nil, nil}},
		{"leaves within a shield", `fn main() { scope { spawn a(); shield { scope { spawn a(); shield { yield; } } } } } fn a() { yield; }`, []int{0, 0}, [][]int{{3}, nil, nil}},
		{"is done, and leaves", `fn main() { scope { spawn a(); return; } } fn a() { yield; }`, []int{0}, [][]int{{2}, nil}},
		{"is cancelled, and leaves", `fn main() { scope { let t = spawn a(); yield; cancel t; } } fn a() { scope { spawn b(); sleep 1; } } fn b() { shield { sleep 1; } }`, []int{0, 1, 1, 0, 0}, [][]int{{2, 3}, {3}, nil}},
		{"leaves those who leave", `fn main() { scope { spawn a(); } } fn a() { scope { spawn b(); spawn b(); } } fn b() { sleep 1; }`, []int{0, 0}, [][]int{{2, 3, 4}, {3, 4}, nil, nil}},
		{"holds", `fn main() { let l = lock 1; scope { hold l { spawn a(l); yield; sleep 1; } } } fn a(l lock) { hold l { } }`, []int{0, 0, 1}, [][]int{nil, {1}}},
		{"holds its own lock", `fn main() { let l = lock 1; hold l { hold l { } } }`, []int{0, 0}, [][]int{{1}}},
		{"holds with several permits", `fn main() { let k = lock 1; let l = lock 3; scope { spawn a(l); spawn a(l); spawn b(l); spawn a(k); } } fn a(l lock) { hold l { sleep 1; } } fn b(l lock) { hold l { hold l { sleep 1; } } }`, []int{0, 0, 0, 0, 0, 0, 0, 0, 0}, [][]int{{2, 3, 4, 5}, nil, nil, {2, 3, 4}, nil}},
		{"two locks", `fn main() { let l = lock 1; let m = lock 1; scope { spawn a(l, m); spawn a(m, l); } } fn a(l lock, m lock) { hold l { yield; hold m { } } }`, []int{0, 0, 1, 0, 1, 0, 0}, [][]int{{2, 3}, {2, 3}, {2, 3}}},
		{"awaits, holds and leaves", `fn main() { let l = lock 1; scope { hold l { let t = spawn a(l); await t; } } } fn a(l lock) { scope { spawn b(l); } } fn b(l lock) { hold l { } }`, []int{0, 0, 0, 0}, [][]int{{1, 2, 3}, {1, 2, 3}, {1, 2, 3}}},
	} {
		for _, e := range engines(t, x.source) {
			s := newSession(t, e, services(0), x.picks)
			wantGo(t, s, len(x.picks))
			for i, want := range x.want {
				if l, err := s.Why(i + 1); !slices.Equal(l, want) || err != api.OK {
					t.Errorf("%s: Why(%d) = %v, %d, want %v; %v", x.name, i+1, l, err, want, s.World().Trace())
				}
			}
			if l, err := s.Why(len(x.want) + 1); l != nil || err != api.ErrNone {
				t.Errorf("%s: Why of no task = %v, %d", x.name, l, err)
			}
		}
	}
}

// TestP271WhyAt checks that Why is about the position, and changes nothing.
func TestP271WhyAt(t *testing.T) {
	s := session(t, `fn main() { scope { spawn a(); spawn a(); } } fn a() { sleep 1; }`, make([]int, 20)...)
	for _, n := range []int{2, 3, 0, -1, math.MaxInt, math.MinInt} {
		if l, err := s.Why(n); l != nil || err != api.ErrNone {
			t.Errorf("Why(%d) = %v, %d", n, l, err)
		}
	}
	wantWhy(t, s, 1)
	wantGo(t, s, 1)
	list, _ := s.Why(1)
	clear(list)
	wantWhy(t, s, 1, 2, 3)
	wantWhy(t, s, 2)
	wantAt(t, s, 1)
	wantGo(t, s, 5) // 2 has ended
	wantWhy(t, s, 1, 3)
	wantGo(t, s, s.Len())
	wantWhy(t, s, 1)
	wantGo(t, s, 3)
	wantWhy(t, s, 1, 2, 3)
}
