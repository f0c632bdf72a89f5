package code

import (
	"math"
	"slices"
	"strings"
	"testing"

	"seedbed/api"
	"seedbed/instr"
)

// readCode reads a function with 4 slots of lines with shortened instructions: without a value, and without the zeros at the end.
func readCode(t *testing.T, lines ...string) api.Code {
	t.Helper()
	text := "fn f 0 4\n"
	for _, line := range lines {
		words := strings.Fields(line)
		for words[0] != "guard" && len(words) < 4 {
			words = append(words, "0")
		}
		if words[0] != "guard" && len(words) == 4 {
			words = append(words, "-")
		}
		if words[0] != "guard" {
			words = append(words, "unit")
		}
		text += "  " + strings.Join(words, " ") + "\n"
	}
	c, line, err := Read(text)
	if err != api.OK {
		t.Fatalf("Read(%q): %d, %d", text, line, err)
	}
	return c
}

func wantReached(t *testing.T, want []int, lines ...string) {
	t.Helper()
	if got, err := Reached(readCode(t, lines...), 0); !slices.Equal(got, want) || err != api.OK {
		t.Errorf("Reached of %v = %v, %d, want %v", lines, got, err, want)
	}
}

// TestP103Ways checks where each instruction leads.
func TestP103Ways(t *testing.T) {
	wantReached(t, []int{0}, "return -1")
	wantReached(t, []int{0}, "return -1", "return -1")
	wantReached(t, []int{0, 1}, "jump 1", "return -1")
	wantReached(t, []int{0, 2}, "jump 2", "return -1", "return -1")
	wantReached(t, []int{0}, "jump 0", "return -1")
	wantReached(t, []int{0, 2, 3}, "jump 3", "return -1", "return -1", "jump 2")
	wantReached(t, []int{0, 1, 3}, "false 0 3", "return -1", "return -1", "return -1")
	wantReached(t, []int{0, 1, 3}, "fault 0 3", "return -1", "return -1", "return -1")
	wantReached(t, []int{0, 1, 3}, "switch 0 0 0 3,1,3", "return -1", "return -1", "return -1")
	wantReached(t, []int{0, 2}, "switch 0 0 0 2", "return -1", "return -1")
	for _, line := range []string{"const", "move", "unary 0 5", "binary 0 9 0 0", "call -1 0", "ask -1 1", "arm 3 0 0 0"} {
		wantReached(t, []int{0, 1}, line, "return -1", "return -1")
	}
	for _, line := range []string{"throw", "raise"} {
		wantReached(t, []int{0}, line, "return -1")
	}
}

// TestP103Guards checks at which instructions a raise leads to a guard, and to which one.
func TestP103Guards(t *testing.T) {
	for line, raises := range map[string]bool{
		"unary 0 5": true, "binary 0 9 0 0": true, "false 0 1": true, "call -1 0": true, "throw": true, "ask -1 1": true, "ask -1 4": true, "ask -1 17": true, "switch 0 0 0 1": true, "raise": true,
		"const": false, "move": false, "jump 1": false, "return -1": false, "arm 3 0 0 0": false, "fault 0 1": false,
	} {
		c := readCode(t, line, "return -1", "return -1", "guard 0 1 2 0")
		got, err := Reached(c, 0)
		if slices.Contains(got, 2) != raises || err != api.OK {
			t.Errorf("Reached with %s in a guard: %v, %d", line, got, err)
		}
	}
	three := []string{"const", "throw", "return -1", "return -1", "return -1"}
	wantReached(t, []int{0, 1, 3}, append(three, "guard 0 2 3 0", "guard 1 2 4 0")...)
	wantReached(t, []int{0, 1, 4}, append(three, "guard 1 2 4 0", "guard 0 2 3 0")...)
	wantReached(t, []int{0, 1, 4}, append(three, "guard 0 1 3 0", "guard 1 2 4 0")...)
	wantReached(t, []int{0, 1, 4}, append(three, "guard 2 5 3 0", "guard 1 5 4 0")...)
	wantReached(t, []int{0, 1}, append(three, "guard 0 1 3 0", "guard 2 3 4 0")...)
	wantReached(t, []int{0, 1, 2}, "const", "throw", "throw", "return -1", "guard 1 2 2 0", "guard 1 2 3 0")
	wantReached(t, []int{0, 1, 2, 3}, "const", "throw", "throw", "return -1", "guard 1 2 2 0", "guard 1 3 3 0")
}

// TestP103Arms checks that arms are reached with their select, and only with it.
func TestP103Arms(t *testing.T) {
	wantReached(t, []int{0, 3, 4, 5, 6}, "jump 5", "arm 3 0 0 0", "const", "arm 3 0 0 0", "arm 3 0 0 0", "ask -1 15 0 0", "return -1")
	wantReached(t, []int{0, 2, 3}, "jump 2", "arm 3 0 0 0", "ask -1 1", "return -1")
	wantReached(t, []int{0, 1, 2, 3, 4, 5}, "jump 3", "arm 3 0 0 0", "arm 3 0 0 0", "arm 3 0 0 0", "ask -1 15 0 0", "return -1")
	wantReached(t, []int{0, 3}, "jump 3", "arm 3 0 0 0", "ask -1 15 0 0", "return -1")
}

// TestP103Functions checks that each function is looked at alone, and that there must be one.
func TestP103Functions(t *testing.T) {
	c := sample()
	for fn, want := range [][]int{{0, 1, 2}, {0, 1, 2}} {
		if got, err := Reached(c, fn); !slices.Equal(got, want) || err != api.OK {
			t.Errorf("Reached(%d) = %v, %d", fn, got, err)
		}
	}
	c.Funcs[1].Code[1] = api.Instr{Op: api.IJump, A: 1}
	if got, err := Reached(c, 1); !slices.Equal(got, []int{0, 1}) || err != api.OK {
		t.Errorf("Reached = %v, %d", got, err)
	}
	for _, fn := range []int{-1, 2, math.MaxInt, math.MinInt} {
		if got, err := Reached(c, fn); len(got) > 0 || err != api.ErrArg {
			t.Errorf("Reached(%d) = %v, %d", fn, got, err)
		}
		if got, err := Reached(api.Code{}, fn); len(got) > 0 || err != api.ErrCode {
			t.Errorf("Reached of no code = %v, %d", got, err)
		}
	}
}

// leadsTo reports whether a place is reached if another one is, as P10.3 says it.
func leadsTo(f api.FnCode, at, next int) bool {
	in := f.Code[at]
	name := opNames[in.Op]
	jumps := map[string][]int{"jump": {in.A}, "false": {in.B}, "fault": {in.B}, "switch": in.L}
	if next == at+1 && !slices.Contains(lastNames, name) || slices.Contains(jumps[name], next) {
		return true
	}
	if slices.Contains([]string{"unary", "binary", "false", "call", "throw", "ask", "switch", "raise"}, name) {
		for _, g := range f.Guards {
			if at >= g.From && at < g.To {
				if g.At == next {
					return true
				}
				break
			}
		}
	}
	if name != "ask" || in.B != api.ASelect || next >= at {
		return false
	}
	return !slices.ContainsFunc(f.Code[next:at], func(in api.Instr) bool { return in.Op != api.IArm })
}

// TestP103Random checks on random codes that exactly those places are reached to which a way of others leads.
func TestP103Random(t *testing.T) {
	left := 0
	each(t, 1500, func(_ *maker, c api.Code) {
		for fn, f := range c.Funcs {
			seen := map[int]bool{0: true}
			for range f.Code {
				for at := range f.Code {
					for next := range f.Code {
						if seen[at] && leadsTo(f, at, next) {
							seen[next] = true
						}
					}
				}
			}
			got, err := Reached(c, fn)
			left += len(f.Code) - len(got)
			if err != api.OK || len(got) != len(seen) || !slices.IsSorted(got) || slices.ContainsFunc(got, func(at int) bool { return !seen[at] }) {
				text, _ := Text(c)
				t.Fatalf("Reached(%d) of %s = %v, %d, want %v", fn, text, got, err, seen)
			}
		}
	})
	if left < 1000 {
		t.Errorf("only %d places are not reached", left)
	}
}

// TestP103Stops checks that a visit of the places to which an instruction leads can be left anywhere.
func TestP103Stops(t *testing.T) {
	for _, lines := range [][]string{
		{"false 0 2", "arm 3 0 0 0", "arm 3 0 0 0", "ask -1 15 0 0", "return -1", "guard 0 4 4 0"},
		{"switch 0 0 0 2,1,0", "jump 0", "return -1", "guard 0 1 1 0"},
	} {
		f := readCode(t, lines...).Funcs[0]
		w := follower{f, instr.Table()}
		for at := range f.Code {
			all := slices.Collect(w.from(at))
			for most := range all {
				var got []int
				for next := range w.from(at) {
					got = append(got, next)
					if len(got) > most {
						break
					}
				}
				if !slices.Equal(got, all[:most+1]) {
					t.Errorf("from %d of %v: %v of %v", at, lines, got, all)
				}
			}
		}
	}
}
