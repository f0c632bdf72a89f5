package direct

import (
	"strconv"
	"strings"
	"testing"

	"seedbed/api"
)

// padded is a program that executes a body 20 times, and then asks, after a number of further steps, for emit 1.
func padded(body, others string, steps int) string {
	// A loop of n rounds has 3 + 2 * n steps.
	rounds := (steps - 3) / 2
	pad := "let p = 0; while p < " + strconv.Itoa(rounds) + " { p = p + 1; }"
	if steps > 3+2*rounds {
		pad += " if true { }"
	}
	return "fn main() { let i = 0; while i < 20 { " + body + " i = i + 1; } " + pad + " emit 1; } " + others
}

// wantSteps checks the number of steps of a body: so many others can be done beside it, and not one more.
func wantSteps(t *testing.T, body, others string, steps int) {
	t.Helper()
	// The let and the while, 21 evaluations, 20 assignments, and the emit.
	rest := api.MaxFuel - 20*steps - (1 + 1 + 21 + 20 + 1)
	turn, err := Next(parsed(t, padded(body, others, rest)), 0, nil, nil)
	if err != api.OK || show(turn) != "emit 1" {
		t.Errorf("%s %s has more than %d steps: %s, %d", body, others, steps, show(turn), err)
	}
	if turn, err = Next(parsed(t, padded(body, others, rest+1)), 0, nil, nil); err != api.ErrFuel {
		t.Errorf("%s %s has less than %d steps: %s, %d", body, others, steps, show(turn), err)
	}
}

// TestP81Steps checks how many steps bodies have.
func TestP81Steps(t *testing.T) {
	deep := "fn f() { f(); }"
	for _, c := range []struct {
		body, others string
		steps        int
	}{
		{"", "", 0}, {"let x = 1;", "", 1}, {"if true { }", "", 1}, {"if false { } else { if true { } }", "", 2}, {"if true { if true { } if true { } }", "", 3}, {"let x = 1; x = x + 1 * 2 - 3;", "", 2},
		{"while false { }", "", 2}, {"while true { break; }", "", 3}, {"let k = 0; while k < 3 { k = k + 1; }", "", 1 + 1 + 4 + 3}, {"let k = 0; while k < 3 { k = k + 1; continue; }", "", 1 + 1 + 4 + 6},
		{"try { } finally { }", "", 1}, {"try { if true { } } catch e { if true { } } finally { if true { } }", "", 3}, {"try { throw \"\"; } catch e { if true { } } finally { if true { } }", "", 4}, {"try { let x = 1 / 0; } catch e { }", "", 2},
		{"f();", "fn f() { }", 2}, {"f();", "fn f() { return; }", 3}, {"let x = f(5);", "fn f(n int) int { return n; }", 3}, {"f(); f();", "fn f() { g(); } fn g() { if true { } }", 10},
		{"try { f(1 / 0); } catch e { }", "fn f(n int) { }", 2}, {"try { f(); } catch e { }", "fn f() { throw \"\"; }", 4},
		// The call that is too deep is no step, but its statement is.
		{"try { f(); } catch e { }", deep, 1 + 2*23 + 1},
	} {
		wantSteps(t, c.body, c.others, c.steps)
	}
}

// TestP81Fuel checks the last step that there can be, also after replies.
func TestP81Fuel(t *testing.T) {
	enough := "fn main() { emit 0; let k = 0; while k < 9998 { k = k + 1; } emit 1; emit 2; }"
	wantTurns(t, enough, 0, nil, "- - -", "emit 0; emit 1; emit 2; done")
	reply := []api.Answer{{}}
	many := parsed(t, "fn main() { emit 0; let k = 0; while k < 9998 { k = k + 1; } if true { } emit 1; emit 2; }")
	wantError(t, many, 0, nil, reply, api.ErrFuel)
	wantError(t, many, 0, nil, append(reply, reply...), api.ErrFuel)
	if turn, err := Next(many, 0, nil, nil); show(turn) != "emit 0" || err != api.OK {
		t.Errorf("Next = %s, %d", show(turn), err)
	}
	// Each of 25 rounds has 1000 steps and a bit.
	wantTurns(t, "fn main() { let n = 0; while n < 25 { let k = 0; while k < 500 { k = k + 1; } n = n + 1; emit n; } }", 0, nil, strings.Repeat("- ", 24), showCount(25))
	for _, body := range []string{"while true { }", "while true { try { break; } finally { continue; } }", "while true { try { return; } catch e { } finally { continue; } }", "while true { try { while true { throw \"\"; } } catch e { } }", "while true { f(); }"} {
		p := parsed(t, "fn main() { "+body+" } fn f() { }")
		wantError(t, p, 0, nil, nil, api.ErrFuel)
		wantError(t, p, 0, nil, reply, api.ErrFuel)
		if turns, err := Alone(p, 0, nil, 1); len(turns) != 0 || err != api.ErrFuel {
			t.Errorf("Alone(%s) = %s, %d", body, showAll(turns), err)
		}
	}
}

// showCount is emit 1; emit 2; .. up to n.
func showCount(n int) string {
	var list []string
	for i := range n {
		list = append(list, "emit "+strconv.Itoa(i+1))
	}
	return strings.Join(list, "; ")
}

// wantError checks that Next and All return an error.
func wantError(t *testing.T, p api.Program, fn int, args []api.Value, answers []api.Answer, want api.Errno) {
	t.Helper()
	if turn, err := Next(p, fn, args, answers); err != want || show(turn) != show(api.Turn{}) {
		t.Errorf("Next(%d, %v, %v) = %s, %d, want %d", fn, args, answers, show(turn), err, want)
	}
	if turns, err := All(p, fn, args, answers); err != want || len(turns) != 0 {
		t.Errorf("All(%d, %v, %v) = %s, %d, want %d", fn, args, answers, showAll(turns), err, want)
	}
}
