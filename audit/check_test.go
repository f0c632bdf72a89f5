package audit

import (
	"math"
	"slices"
	"testing"

	"seedbed/api"
)

// TestP281Rules checks what breaks each rule, and what does not.
func TestP281Rules(t *testing.T) {
	for _, x := range []struct{ events, want string }{
		// Rule 1.
		{``, ""},
		{`@5 1 start; @5 1 emit; @6 1 end`, ""},
		{`@5 1 start; @4 1 emit; @4 1 emit; @3 1 end`, "1:1 3:1"},
		{`@5 0 time; @4 0 time; @9 0 time; @8 1 start; @8 0 late 3; @7 0 order`, "1:1 3:1 5:1"},
		{`@-3 1 start; @-4 1 end`, "1:1"},
		// Rule 2.
		{`1 start; 1 emit; 1 end`, ""},
		{`1 emit; 1 start; 2 emit; 1 end`, "0:2 2:2"},
		{`1 start; 1 start; 1 end`, "1:2"},
		{`1 start; 1 end; 1 emit; 1 cancel; 1 time; 1 99; 1 -1`, "2:2 3:2 4:2 5:2 6:2"},
		{`1 start; 1 late; 1 order; 1 time; 1 none; 1 23; 1 cancel; 1 strike 1; 1 leave 1`, "8:5 8:6"},
		{`-1 start; -1 emit; -2 emit; -1 end; -1 emit`, "2:2 4:2"},
		// Rule 3.
		{`1 start; 1 open 1; 2 start 1; 2 end; 1 left 1; 1 end`, ""},
		{`1 start 7; 1 open 1; 2 start 1; 3 start 2; 2 end; 3 end; 1 left 1; 4 start 1`, "0:3 3:3 7:3"},
		{`1 start; 1 open 1; 1 open 1; 1 left 1; 1 open 1; 1 open 2`, "2:3 4:3"},
		{`1 start; 2 start; 1 open 1; 2 open 1`, "3:3"},
		{`1 start; 1 open -4; 2 start -4; 2 end; 1 left -4; 1 open -4`, "5:3"},
		// Rule 4.
		{`1 start; 1 open 1; 2 start 1; 3 start 1; 2 end; 1 leave 1; 1 left 1`, "6:4"},
		{`1 start; 1 open 1; 2 start 1; 1 left 1; 1 left 1`, "3:4 4:5 4:6"},
		{`1 start; 1 open 1; 1 open 2; 2 start 1; 1 left 2; 2 end; 1 left 1`, ""},
		{`1 start; 2 start; 1 open 1; 3 start 1; 2 left 1`, "4:4 4:5 4:6"},
		// Rule 5.
		{`1 start; 1 open 1; 1 leave 1; 1 leave 1; 1 left 1; 1 leave 1`, "5:5 5:6"},
		{`1 start; 2 start; 1 open 1; 2 open 2; 1 leave 2; 2 left 1; 1 left 2`, "4:5 4:6 5:5 5:6 6:5 6:6"},
		// Rule 6.
		{`1 start; 1 shield; 1 open 1; 1 shield; 1 unveil; 1 leave 1; 1 left 1; 1 unveil; 1 end`, ""},
		{`1 start; 1 unveil; 1 shield; 1 open 1; 1 unveil; 1 leave 1; 1 left 1; 1 unveil`, "1:6 4:6 7:6"},
		{`1 start; 1 open 1; 1 open 2; 1 leave 1; 1 left 1; 1 leave 2; 1 left 2; 1 end`, "3:6 4:6"},
		{`1 start; 1 open 1; 1 shield; 1 leave 1; 1 left 1; 1 unveil; 1 end`, "3:6 4:6"},
		// Rules 7 and 8.
		{`1 start; 1 acquire 3; 1 acquire 3; 1 acquire 4; 1 release 4; 1 release 3; 1 release 3; 1 end`, ""},
		{`1 start; 1 release 3; 1 acquire 3; 1 release 4; 1 release 3; 1 release 3`, "1:7 3:7 5:7"},
		{`1 start; 2 start; 1 acquire 3; 2 release 3; 2 acquire 4; 1 release 3; 2 release 4`, "3:7"},
		{`1 start; 1 acquire 3; 1 acquire 4; 1 release 3; 1 release 4`, "3:8"},
		{`1 start; 1 acquire 3; 1 acquire 4; 1 acquire 3; 1 release 3; 1 release 3; 1 release 4; 1 end`, "5:8"},
		{`1 start; 1 acquire 3; 1 acquire 4; 1 acquire 3; 1 release 4; 1 release 3; 1 release 3; 1 end`, "4:8"},
		{`1 start; 1 acquire 0; 1 acquire -1; 1 release -1; 1 release 0; 1 end`, ""},
		// Rule 9: a leak is no crossing.
		{`1 start; 1 acquire 3; 1 acquire 4; 1 leak 3; 1 leak 4; 1 leak 5; 1 end`, "3:9 4:9 5:7 5:9"},
		// Rule 10.
		{`1 start; 1 open 1; 1 end; 2 start; 2 shield; 2 end; 3 start; 3 acquire 1; 3 end`, "2:10 5:10 8:10"},
		{`1 start; 1 shield; 1 acquire 4; 1 end`, "3:10"},
		// Rule 11.
		{`1 start; 1 wait 2; 1 go 2; 1 wait 10; 1 cancel; 1 go 10; 1 go 1; 1 end`, ""},
		{`1 start; 1 wait 2; 1 wait 2; 1 go 2; 1 wait 2`, "2:11"},
		{`1 start; 2 start; 1 wait; 2 emit; 2 go; 1 emit; 1 go; 1 emit`, "5:11"},
		{`1 start; 1 acquire 1; 1 acquire 2; 1 shield; 1 wait; 1 emit; 1 acquire 3; 1 release 3; 1 shield; 1 unveil; 1 make; 1 lock; 1 close; 1 free; 1 strike; 1 unveil; 1 open 9`, "5:11 6:11 7:11 8:11 9:11 10:11 11:11 12:11 13:11 14:11 15:11 16:11"},
		{`1 start; 1 open 1; 1 wait; 1 cancel; 1 leave 1; 1 left 1; 1 late; 1 order; 1 time; 1 none; 1 leak 4; 1 start; 1 end`, "10:7 10:9 11:2"},
		// Of several rules all are told.
		{`@3 1 start; @3 1 wait; @3 1 end; @2 1 release 4`, "3:1 3:2 3:7 3:11"},
		{`@1 2 left 4`, "0:2 0:5 0:6"},
	} {
		l := eventsOf(t, x.events)
		if got := textOfFindings(Check(l)); got != x.want {
			t.Errorf("Check(%s) = %q, want %q", x.events, got, x.want)
		}
		if got := textOfFindings(second(l)); got != x.want {
			t.Errorf("the second check of %s = %q, want %q", x.events, got, x.want)
		}
	}
}

// TestP281Effects checks that what breaks a rule has its effect all the same.
func TestP281Effects(t *testing.T) {
	for _, x := range []struct{ name, events, want string }{
		{"a start after the end", `1 start; 1 end; 1 start; 1 emit; 1 end; 1 emit`, "2:2 5:2"},
		{"an end before the start", `1 end; 1 emit; 1 start; 1 emit; 1 end`, "0:2 1:2 2:2"},
		{"a start again is in the new scope alone", `1 start; 1 open 1; 1 open 2; 2 start 1; 2 start 2; 1 left 2; 1 left 1`, "4:2 5:4"},
		{"also after an end", `1 start; 1 open 1; 1 open 2; 2 start 1; 2 end; 2 start 2; 1 left 2; 1 left 1; 2 end`, "5:2 6:4"},
		{"and in no scope", `1 start; 1 open 1; 2 start 1; 2 start; 1 left 1`, "3:2"},
		{"a start again keeps links", `1 start; 1 open 1; 1 shield; 1 start; 1 unveil; 1 left 1; 1 end`, "3:2"},
		{"and what is held", `1 start; 1 acquire 4; 1 acquire 5; 1 start; 1 release 4; 1 release 5; 1 end`, "3:2 4:8"},
		{"and whether it waits", `1 start; 1 wait; 1 start; 1 emit; 1 go; 1 emit`, "2:2 3:11"},
		{"an end keeps whether it waits", `1 start; 1 wait; 1 end; 1 start; 1 emit`, "3:2 4:11"},
		{"an end removes links", `1 start; 1 open 1; 1 shield; 1 end; 1 start; 1 unveil; 1 leave 1; 1 end`, "3:10 4:2 5:6 6:6"},
		{"and what is held then", `1 start; 1 acquire 4; 1 end; 1 start; 1 release 4; 1 end`, "2:10 3:2 4:7"},
		{"its scopes stay open", `1 start; 1 open 1; 1 end; 2 start 1; 2 end; 1 left 1; 3 start 1`, "2:10 5:2 5:6 6:3"},
		{"a task begins in a scope that is not open", `1 start; 2 start 1; 1 open 1; 1 left 1`, "1:3 3:4"},
		{"a scope that was left has its tasks when it is opened again", `1 start; 1 open 1; 2 start 1; 1 left 1; 1 open 1; 1 left 1; 2 end; 1 open 1; 1 left 1`, "3:4 4:3 5:4 7:3"},
		{"an open again is the last link", `1 start; 1 open 1; 1 open 2; 1 open 1; 1 left 2; 1 left 1; 1 end`, "3:3 4:6"},
		{"and there is no other one", `1 start; 1 open 1; 1 open 1; 1 left 1; 1 end`, "2:3"},
		{"and the scope is nobody else's", `1 start; 2 start; 1 open 1; 2 open 1; 1 leave 1; 1 end; 2 leave 1; 2 left 1; 2 end`, "3:3 4:5 4:6"},
		{"an open again of a scope that was left", `1 start; 2 start; 1 open 1; 1 left 1; 2 open 1; 3 start 1; 3 end; 2 left 1; 2 end; 1 end`, "4:3"},
		{"a scope of nobody that runs", `9 open 1; 2 start 1; 2 end; 9 left 1`, "0:2 3:2"},
		{"an unveil removes the last shield", `1 start; 1 shield; 1 open 1; 1 shield; 1 open 2; 1 unveil; 1 left 2; 1 left 1; 1 unveil; 1 end`, "5:6"},
		{"a left of somebody else closes the scope", `1 start; 2 start; 1 open 1; 2 left 1; 1 end; 3 start 1`, "3:5 3:6 5:3"},
		{"and removes it from its owner's links alone", `1 start; 2 start; 1 open 1; 2 open 2; 2 left 1; 1 left 1; 2 left 2; 1 end; 2 end`, "4:5 4:6 5:5 5:6"},
		{"a left within others", `1 start; 1 open 1; 1 shield; 1 open 2; 1 left 1; 1 left 2; 1 unveil; 1 end`, "4:6"},
		{"a release of what is not the last", `1 start; 1 acquire 4; 1 acquire 5; 1 acquire 4; 1 acquire 6; 1 release 4; 1 release 6; 1 release 5; 1 release 4; 1 end`, "5:8"},
		{"a wait again", `1 start; 1 wait; 1 wait; 1 go; 1 emit`, "2:11"},
		{"waits and holds before the beginning", `1 wait; 1 acquire 3; 1 start; 1 emit; 1 go; 1 end`, "0:2 1:2 1:11 3:11 5:10"},
		{"a scope with the number 0", `1 open 0; 1 start; 1 left 0; 1 end`, "0:2 2:4"},
		{"no task's events have no effect", `0 start; 0 emit; 0 open 1; 0 acquire 3; 0 wait; 0 end; 1 start; 1 open 1; 0 left 1; 0 leave 9; 0 unveil; 0 leak 2; 1 left 1; 1 end`, ""},
	} {
		l := eventsOf(t, x.events)
		if got := textOfFindings(Check(l)); got != x.want {
			t.Errorf("%s: Check(%s) = %q, want %q", x.name, x.events, got, x.want)
		}
		if got := textOfFindings(second(l)); got != x.want {
			t.Errorf("%s: the second check of %s = %q, want %q", x.name, x.events, got, x.want)
		}
	}
}

// TestP281Any checks events that are not valid, and that Check changes none.
func TestP281Any(t *testing.T) {
	if l := Check(nil); len(l) != 0 {
		t.Errorf("Check(nil) = %v", l)
	}
	var list []api.Event
	for _, n := range []int{0, 1, -1, math.MaxInt, math.MinInt, math.MaxInt32, math.MinInt32} {
		for kind := -1; kind <= 23; kind++ {
			list = append(list, api.Event{At: n, Task: n, Kind: kind, N: n, M: n, V: api.Value{Kind: n, N: n}, Fault: api.Fault{Kind: n}})
			list = append(list, api.Event{At: -n, Task: 1, Kind: n, N: -n}, api.Event{At: n, Task: n + 1, Kind: kind, N: 1})
		}
	}
	before := slices.Clone(list)
	if got, want := textOfFindings(Check(list)), textOfFindings(second(list)); got != want {
		t.Errorf("Check = %s, want %s", got, want)
	}
	if !slices.Equal(list, before) {
		t.Error("the events have changed")
	}
}

// TestP281Long checks a trace of many tasks, scopes, and resources.
func TestP281Long(t *testing.T) {
	list := []api.Event{{Task: 1, Kind: api.VStart}, {Task: 1, Kind: api.VOpen, N: 1}}
	const many = 50000
	for n := 2; n <= many; n++ {
		list = append(list, api.Event{Task: n, Kind: api.VStart, N: 1}, api.Event{Task: n, Kind: api.VOpen, N: n}, api.Event{Task: n, Kind: api.VLeft, N: n})
	}
	list = append(list, api.Event{Task: 1, Kind: api.VLeft, N: 1})
	if got, want := Check(list), []api.Finding{{At: len(list) - 1, Rule: 4}}; !slices.Equal(got, want) {
		t.Errorf("%d findings", len(got))
	}
}
