package words

import (
	"math/rand/v2"
	"slices"
	"strings"
	"testing"

	"seedbed/api"
)

func text(s string) api.Value { return api.Value{Kind: api.KText, S: s} }

func thrown(s string) api.Fault { return api.Fault{Kind: api.FThrow, Text: s} }

// TestP251Texts checks the texts of values and faults, and that they are read back.
func TestP251Texts(t *testing.T) {
	for want, v := range map[string]api.Value{
		`_`: {}, `0`: {Kind: api.KInt}, `-1`: {Kind: api.KInt, N: -1}, `1000000000000`: {Kind: api.KInt, N: api.MaxInt}, `-1000000000000`: {Kind: api.KInt, N: -api.MaxInt},
		`true`: {Kind: api.KBool, N: 1}, `false`: {Kind: api.KBool}, `c1`: {Kind: api.KChan, N: 1}, `t1000000000000`: {Kind: api.KTask, N: api.MaxInt}, `l20`: {Kind: api.KLock, N: 20},
		`""`: text(""), `" "`: text(" "), `"a b~"`: text("a b~"), `"\""`: text(`"`), `"\\"`: text(`\`), `"\\\""`: text(`\"`), `"_"`: text("_"), `" \" \\ \" "`: text(` " \ " `),
	} {
		if got := Value(v); got != want {
			t.Errorf("Value(%v) = %s, want %s", v, got, want)
		}
		c := Over(want)
		if got, ok := c.Value(); got != v || !ok || !c.AtEnd() {
			t.Errorf("%s is read as %v, %t", want, got, ok)
		}
	}
	for want, f := range map[string]api.Fault{`-`: {}, `cancel`: {Kind: api.FCancel}, `throw ""`: thrown(""), `throw "a \"b\" \\"`: thrown(`a "b" \`), `throw "-"`: thrown("-")} {
		if got := Fault(f); got != want {
			t.Errorf("Fault(%v) = %s, want %s", f, got, want)
		}
		c := Over(want)
		if got, ok := c.Fault(); got != f || !ok || !c.AtEnd() {
			t.Errorf("%s is read as %v, %t", want, got, ok)
		}
	}
}

// TestP251Wrong checks what is no text of a number, a value or a fault.
func TestP251Wrong(t *testing.T) {
	numbers := []string{"", "-", "+1", "01", "-0", "00", "0x1", "1_0", "1e3", "a", "99999999999999999999", "-99999999999999999999", "1a", "_", " 1", "\n1", "١"}
	for _, s := range numbers {
		c := Over(s)
		if n, ok := c.Number(); n != 0 || ok {
			t.Errorf("%q is read as the number %d", s, n)
		}
	}
	values := []string{"", "__", "unit", "True", "truefalse", "c", "c0", "c-1", "c01", "C1", "chan#1", "k1", "t", "tru", "l ", "1000000000001", "-1000000000001", "c1000000000001", `"`, `"a`, `a"`, `"a"b`, `""""`, `"\a"`, `"\"`, `"""`, "\"\n\"", "\"\x7f\"", "\"\x1f\"", "\"é\"", `'a'`, `"` + strings.Repeat("a", 61) + `"`, `-`, "+1", "01", " 1"}
	for _, s := range values {
		c := Over(s)
		if v, ok := c.Value(); v != (api.Value{}) || ok {
			t.Errorf("%q is read as the value %v", s, v)
		}
	}
	faults := []string{"", "_", "--", "none", "Cancel", "cancelled", `cancel"x"`, "throw", "throw ", "throw x", "throw 1", `throw"x"`, `throw  "x"`, "throw _", `throw "x`, `throws "x"`, " -", `throw "` + strings.Repeat("a", 61) + `"`}
	for _, s := range faults {
		c := Over(s)
		if f, ok := c.Fault(); f != (api.Fault{}) || ok {
			t.Errorf("%q is read as the fault %v", s, f)
		}
	}
}

// TestP251Words checks where words end.
func TestP251Words(t *testing.T) {
	for s, want := range map[string][]string{
		"": {""}, " ": {"", ""}, "a": {"a"}, "a b": {"a", "b"}, "a  b": {"a", "", "b"}, " a ": {"", "a", ""}, "a\nb": {"a", "b"}, "\n\n": {"", "", ""}, "a\tb": {"a\tb"},
		`"a b" c`: {`"a b"`, "c"}, "\"a\nb\" c": {"\"a\nb\"", "c"}, `"a\" b" c`: {`"a\" b"`, "c"}, `"a\\" b" c`: {`"a\\"`, `b" c`}, `x"a b"y c`: {`x"a b"y`, "c"}, `"a b`: {`"a b`}, `"\`: {`"\`}, `\`: {`\`}, `\ a b`: {`\ a`, "b"},
	} {
		c := Over(s)
		list := []string{c.Word()}
		for c.Skip(Blank) || c.Skip(LineFeed) {
			list = append(list, c.Word())
		}
		if !slices.Equal(list, want) || !c.AtEnd() {
			t.Errorf("the words of %q are %q, want %q", s, list, want)
		}
	}
}

// TestP251Skip checks that a cursor stays where it is if something else comes next.
func TestP251Skip(t *testing.T) {
	c := Over("ab c")
	if c.Skip("b") || c.Skip("ab  ") || c.AtEnd() || !c.Skip("a") || !c.Skip("") || c.Skip("b c ") || !c.Skip("b c") || !c.AtEnd() || c.Skip(" ") || !c.Skip("") {
		t.Error("Skip")
	}
}

// TestP252Random checks that what is read of random words has these texts.
func TestP252Random(t *testing.T) {
	r := rand.New(rand.NewPCG(25, 2))
	parts := []string{"_", "-", "0", "1", "12", "true", "false", "c", "t", "l", `"`, `"`, `\`, " ", "a", "cancel", "throw", "\n", "unit", "#"}
	read := 0
	for range 200000 {
		s := ""
		for range 1 + r.IntN(5) {
			s += parts[r.IntN(len(parts))]
		}
		c, d := Over(s), Over(s)
		if v, ok := c.Value(); ok {
			read++
			if !strings.HasPrefix(s, Value(v)) || Value(v)+c.rest != s {
				t.Fatalf("%q is read as %v, and %q is left", s, v, c.rest)
			}
		}
		if f, ok := d.Fault(); ok {
			read++
			if Fault(f)+d.rest != s {
				t.Fatalf("%q is read as %v, and %q is left", s, f, d.rest)
			}
		}
	}
	if read < 1000 {
		t.Errorf("only %d are read", read)
	}
}
