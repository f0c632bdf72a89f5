package eval

import (
	"math/rand/v2"
	"strings"
	"testing"

	"seedbed/api"
)

func wantText(t *testing.T, v api.Value, text string) {
	t.Helper()
	if got, err := Show(v); got != text || err != api.OK {
		t.Errorf("Show(%v) = %q, %d, want %q", v, got, err, text)
	}
	if got, err := Read(text); got != v || err != api.OK {
		t.Errorf("Read(%q) = %v, %d, want %v", text, got, err, v)
	}
}

// TestP72Texts checks the texts of values of all kinds.
func TestP72Texts(t *testing.T) {
	wantText(t, api.Value{}, "unit")
	wantText(t, api.Value{Kind: api.KBool, N: 1}, "true")
	wantText(t, api.Value{Kind: api.KBool}, "false")
	for text, n := range map[string]int{"0": 0, "7": 7, "-7": -7, "10": 10, "1000000000000": api.MaxInt, "-1000000000000": -api.MaxInt, "-1": -1} {
		wantText(t, api.Value{Kind: api.KInt, N: n}, text)
	}
	long := strings.Repeat(`\`, 60)
	for text, s := range map[string]string{`""`: "", `"a"`: "a", `"a b"`: "a b", `"\""`: `"`, `"\\"`: `\`, `"\\\""`: `\"`, `"unit"`: "unit", `"5"`: "5", `"chan#1"`: "chan#1", `"#"`: "#", `"` + long + long + `"`: long} {
		wantText(t, api.Value{Kind: api.KText, S: s}, text)
	}
	wantText(t, api.Value{Kind: api.KChan, N: 1}, "chan#1")
	wantText(t, api.Value{Kind: api.KTask, N: 20}, "task#20")
	wantText(t, api.Value{Kind: api.KLock, N: api.MaxInt}, "lock#1000000000000")
	for _, v := range pool() {
		text, _ := Show(v)
		wantText(t, v, text)
	}
}

// TestP72NoTexts checks values without a text, and texts of no value.
func TestP72NoTexts(t *testing.T) {
	for _, v := range wrongValues() {
		if got, err := Show(v); got != "" || err != api.ErrArg {
			t.Errorf("Show(%v) = %q, %d", v, got, err)
		}
	}
	for _, s := range []string{
		"", " ", "x", "Unit", "unit ", " unit", "UNIT", "unit#1", "True", "tru", "true1", "yes", "-", "--1", "+1", "-0", "00", "01", "-01", "1 ", " 1", "1.0", "1e3", "0x1", "1_000", "1000000000001", "-1000000000001", "9999999999999999999999", "१",
		`"`, `"a`, `a"`, `"a"b`, `"a""`, `"""`, `"\"`, `"\a"`, `"\`, `"\\\"`, `'a'`, `"a" `, "\"\n\"", "\"\x7f\"", `"` + strings.Repeat("a", 61) + `"`, `"` + strings.Repeat("a", 100000) + `"`,
		"chan", "chan#", "chan#0", "chan#-1", "chan#01", "chan#+1", "chan# 1", "chan #1", "chan#1#", "chan##1", "#1", "#", "Chan#1", "task#1000000000001", "lock#x", "int#1", "text#1", "bool#1", "chan#1 ", "chan1", "#5#5", "tasks#1", "lock#99999999999999999999",
	} {
		if got, err := Read(s); got != (api.Value{}) || err != api.ErrArg {
			t.Errorf("Read(%q) = %v, %d", s, got, err)
		}
	}
}

// TestP74Texts checks that Show and Read correspond to each other, for random texts in which parts of true ones stand.
func TestP74Texts(t *testing.T) {
	r := rand.New(rand.NewPCG(7, 2))
	parts := []string{"unit", "true", "chan", "task", "#", "1", "0", "-", "9", `"`, `\`, `a`, " ", "\n", "lock"}
	read := 0
	for range 200000 {
		s := ""
		for range r.IntN(6) {
			s += parts[r.IntN(len(parts))]
		}
		if r.IntN(2) == 0 {
			s = `"` + s + `"`
		}
		v, err := Read(s)
		if err != api.OK {
			continue
		}
		read++
		if text, err := Show(v); text != s || err != api.OK || !Valid(v) {
			t.Fatalf("Read(%q) = %v, whose text is %q, %d", s, v, text, err)
		}
	}
	if read < 20000 {
		t.Errorf("only %d texts", read)
	}
}
