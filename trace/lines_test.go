package trace

import (
	"math/rand/v2"
	"regexp"
	"slices"
	"strconv"
	"strings"
	"testing"

	"seedbed/api"
	"seedbed/words"
)

// lineForm is the form of a line; texts are too long in it, and numbers out of their ranges.
var lineForm = regexp.MustCompile(`^(0|[1-9]\d*) (0|[1-9]\d*) (` + strings.Join(kindNames[1:], "|") + `) (0|-?[1-9]\d*) (0|-?[1-9]\d*) (?:_|(0|-?[1-9]\d*)|true|false|[ctl]([1-9]\d*)|"((?:[ !#-\[\]-~]|\\["\\])*)") (?:-|cancel|throw "((?:[ !#-\[\]-~]|\\["\\])*)")$`)

// isLine reports whether something is the line of a valid event, by its form.
func isLine(s string) bool {
	parts := lineForm.FindStringSubmatch(s)
	if parts == nil {
		return false
	}
	within := func(part string, least, most int) bool {
		n, err := strconv.Atoi(part)
		return part == "" || err == nil && n >= least && n <= most
	}
	short := func(part string) bool {
		return len(strings.NewReplacer(`\"`, "q", `\\`, "b").Replace(part)) <= api.MaxText
	}
	return within(parts[1], 0, api.MaxTime) && within(parts[2], 0, api.MaxTasks) && within(parts[4], -1, api.MaxTime) && within(parts[5], -1, api.MaxTime) &&
		within(parts[6], -api.MaxInt, api.MaxInt) && within(parts[7], 1, api.MaxInt) && short(parts[8]) && short(parts[9])
}

// areLines reports whether something is the text of some valid events.
func areLines(s string) bool {
	for line := range strings.Lines(s) {
		one, ended := strings.CutSuffix(line, "\n")
		if !ended || !isLine(one) {
			return false
		}
	}
	return true
}

func anyNumber(r *rand.Rand, least, most int) int {
	switch r.IntN(4) {
	case 0:
		return least
	case 1:
		return most
	}
	return least + r.IntN(min(most-least+1, 300))
}

func anyText(r *rand.Rand) string {
	text := ""
	for range []int{0, 1, 4, api.MaxText}[r.IntN(4)] {
		text += string(rune([]int{32, '"', '\\', 126, 32 + r.IntN(95)}[r.IntN(5)]))
	}
	return text
}

func anyValue(r *rand.Rand) api.Value {
	v := api.Value{Kind: r.IntN(api.KLock + 1)}
	switch v.Kind {
	case api.KInt:
		v.N = anyNumber(r, -api.MaxInt, api.MaxInt)
	case api.KBool:
		v.N = r.IntN(2)
	case api.KText:
		v.S = anyText(r)
	case api.KChan, api.KTask, api.KLock:
		v.N = anyNumber(r, 1, api.MaxInt)
	}
	return v
}

// fullEvent makes a valid event with any fields.
func fullEvent(r *rand.Rand) api.Event {
	faults := []api.Fault{{}, {Kind: api.FCancel}, thrown(anyText(r))}
	return api.Event{
		At: anyNumber(r, 0, api.MaxTime), Task: anyNumber(r, 0, api.MaxTasks), Kind: anyNumber(r, api.VStart, api.VLeft),
		N: anyNumber(r, -1, api.MaxTime), M: anyNumber(r, -1, api.MaxTime), V: anyValue(r), Fault: faults[r.IntN(3)],
	}
}

// changed returns a string in which a byte was changed, removed or put in.
func changed(r *rand.Rand, s string) string {
	const likely = "0123456789-\"\\ \n_ctlabx\x00\xff"
	at, b := r.IntN(len(s)), likely[r.IntN(len(likely)):][:1]
	return []string{s[:at] + b + s[at+1:], s[:at] + s[at+1:], s[:at] + b + s[at:]}[r.IntN(3)]
}

// TestP252Random checks that events are read back, and what is read of texts in which something was changed.
func TestP252Random(t *testing.T) {
	r := rand.New(rand.NewPCG(25, 2))
	right, wrong := 0, 0
	for range 3000 {
		var l []api.Event
		for range 1 + r.IntN(4) {
			l = append(l, fullEvent(r))
		}
		s, err := Text(l)
		if err != api.OK || !areLines(s) {
			t.Fatalf("Text(%v) = %q, %d", l, s, err)
		}
		wantText(t, l, s)
		for range 20 {
			other := s
			for range 1 + r.IntN(3) {
				if other != "" {
					other = changed(r, other)
				}
			}
			got, err := Parse(other)
			if !areLines(other) {
				wrong++
				if got != nil || err != api.ErrSyntax {
					t.Fatalf("Parse(%q) = %v, %d", other, got, err)
				}
				continue
			}
			right++
			if err != api.OK {
				t.Fatalf("Parse(%q): %d", other, err)
			}
			wantText(t, got, other)
		}
	}
	if right < 5000 || wrong < 5000 {
		t.Errorf("only %d are right, and %d wrong", right, wrong)
	}
}

// TestP251Left checks that the loop over events can be left anywhere.
func TestP251Left(t *testing.T) {
	l := []api.Event{emit(1, 1, 1), emit(2, 2, 2), emit(3, 3, 3)}
	for most := 1; most <= len(l); most++ {
		p := parser{Cursor: words.Over(textOf(l))}
		var got []api.Event
		for e := range p.events() {
			got = append(got, e)
			if len(got) == most {
				break
			}
		}
		if !slices.Equal(got, l[:most]) || p.wrong || p.AtEnd() != (most == len(l)) {
			t.Errorf("%v, %t", got, p.wrong)
		}
	}
}
