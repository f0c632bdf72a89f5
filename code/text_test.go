package code

import (
	"regexp"
	"strconv"
	"strings"
	"testing"

	"seedbed/api"
)

func wantText(t *testing.T, c api.Code, want string) {
	t.Helper()
	if got, err := Text(c); got != want || err != api.OK {
		t.Errorf("Text = %q, %d, want %q", got, err, want)
	}
	if got, line, err := Read(want); !Same(got, c) || line != 0 || err != api.OK {
		t.Errorf("Read(%q) = %v, %d, %d", want, got, line, err)
	}
}

func wantNoCode(t *testing.T, text string, line int, err api.Errno) {
	t.Helper()
	if c, at, got := Read(text); !Same(c, api.Code{}) || at != line || got != err {
		t.Errorf("Read(%q) = %v, %d, %d, want %d, %d", text, c, at, got, line, err)
	}
}

// TestP102Texts checks texts of codes.
func TestP102Texts(t *testing.T) {
	wantText(t, codeOf(plain("main", 0, 0, 1)), "fn main 0 0\n  return -1 0 0 - unit\n")
	wantText(t, codeOf(api.FnCode{Name: "main", Slots: 1, Code: []api.Instr{{Op: api.IConst, V: api.Value{Kind: api.KInt, N: 5}}, {Op: api.IAsk, A: -1, B: api.AEmit, L: []int{0}}, back()}}),
		"fn main 0 1\n  const 0 0 0 - 5\n  ask -1 3 0 0 unit\n  return -1 0 0 - unit\n")
	wantText(t, sample(), `fn main 1 5
  const 2 0 0 - "a \"b"
  ask 1 9 0 0,3 unit
  return -1 0 0 - unit
  guard 0 2 1 3
  guard 1 3 2 0
fn g 2 2
  binary 1 15 1 0 unit
  switch 1 0 0 0,1,2 unit
  return -1 0 0 - unit
`)
}

// TestP102Names checks the line of each instruction.
func TestP102Names(t *testing.T) {
	for op, name := range opNames {
		for _, words := range lettersOf(op) {
			in := fill(words, op)
			list := strings.TrimSuffix(strings.Repeat("0,", len(in.L)), ",")
			if list == "" {
				list = "-"
			}
			line := "  " + strings.Join([]string{name, strconv.Itoa(in.A), strconv.Itoa(in.B), strconv.Itoa(in.C), list, "unit"}, " ") + "\n"
			wantText(t, around(in), "fn main 0 3\n  return -1 0 0 - unit\n"+line+"  return -1 0 0 - unit\n  return -1 0 0 - unit\nfn f 2 2\n  return -1 0 0 - unit\n")
		}
	}
}

// TestP102Values checks the texts of all kinds of values.
func TestP102Values(t *testing.T) {
	for text, v := range map[string]api.Value{
		"unit": {}, "0": {Kind: api.KInt}, "-1000000000000": {Kind: api.KInt, N: -api.MaxInt}, "true": {Kind: api.KBool, N: 1}, "false": {Kind: api.KBool}, `""`: {Kind: api.KText}, `"  "`: {Kind: api.KText, S: "  "}, `"\\\" -"`: {Kind: api.KText, S: `\" -`},
		"chan#1": {Kind: api.KChan, N: 1}, "task#20": {Kind: api.KTask, N: 20}, "lock#1000000000000": {Kind: api.KLock, N: api.MaxInt},
	} {
		c := codeOf(plain("f", 0, 1, 2))
		c.Funcs[0].Code[0] = api.Instr{Op: api.IConst, V: v}
		wantText(t, c, "fn f 0 1\n  const 0 0 0 - "+text+"\n  return -1 0 0 - unit\n")
	}
}

// TestP102NotValid checks texts of codes that are not valid.
func TestP102NotValid(t *testing.T) {
	end := "  return -1 0 0 - unit\n"
	for _, text := range []string{
		"", "fn f 0 0\n", "fn f 0 0\n  move 0 0 0 - unit\n", "fn f -1 0\n" + end, "fn f 9223372036854775807 -9223372036854775808\n" + end, "fn F 0 0\n" + end, "fn while 0 0\n" + end, "fn a\tb 0 0\n" + end, "fn f\r 0 0\n" + end, "fn \" 0 0\n" + end, "fn fn 0 0\n" + end,
		"fn f 0 0\n" + end + "fn f 0 0\n" + end, "fn f 0 0\n  guard 0 1 0 0\n", "fn f 0 0\n" + end + "  guard 0 1 0 0\n", "fn f 0 1\n  return 0 0 0 0 unit\n", "fn f 0 1\n  return 0 0 0 - 1\n", "fn f 0 1\n  return 1 0 0 - unit\n", "fn f 0 1\n  return 0 0 0 -1,-2 \"\"\n", "fn f 0 201\n" + end,
		strings.Repeat("fn f 0 0\n", 100), "fn f 0 0\n" + strings.Repeat(end, api.MaxCode+1),
	} {
		wantNoCode(t, text, 0, api.ErrCode)
	}
}

// TestP102WrongLines checks lines that are those of no code, and lines that stand where they can't.
func TestP102WrongLines(t *testing.T) {
	end := "  return -1 0 0 - unit\n"
	for _, line := range []string{
		"\n", " \n", "  \n", "x\n", "fn\n", "fn \n", "fn f\n", "fn f 0\n", "fn f 0 0 \n", "fn f 0 0 0\n", "fn  0 0\n", "fn f  0 0\n", " fn f 0 0\n", "  fn f 0 0\n", "Fn f 0 0\n", "fn f 00 0\n", "fn f -0 0\n", "fn f +1 0\n", "fn f 0 x\n", "fn f 0 9223372036854775808\n", "fn f 0 0\r\n", "fn f 0 \n", "fn f\t0 0\n",
		"return -1 0 0 - unit\n", " return -1 0 0 - unit\n", "   return -1 0 0 - unit\n", "\treturn -1 0 0 - unit\n", "  return -1 0 0 - unit \n", "  return  -1 0 0 - unit\n", "  return -1 0 0 unit\n", "  return -1 0 0 -\n", "  return -1 0 0 - \n", "  return -1 0 0\n", "  return\n", "  retur -1 0 0 - unit\n", "  Return -1 0 0 - unit\n", "   -1 0 0 - unit\n", "  10 -1 0 0 - unit\n",
		"  return - 0 0 - unit\n", "  return 01 0 0 - unit\n", "  return -1 x 0 - unit\n", "  return -1 0 1e1 - unit\n", "  return -1 0 0  unit\n", "  return -1 0 0 0, unit\n", "  return -1 0 0 ,0 unit\n", "  return -1 0 0 0,,0 unit\n", "  return -1 0 0 0 ,0 unit\n", "  return -1 0 0 -,0 unit\n", "  return -1 0 0 0,- unit\n", "  return -1 0 0 -- unit\n", "  return -1 0 0 0,01 unit\n", "  return -1 0 0 -0 unit\n", "  return -1 0 0 9223372036854775808 unit\n", "  return -9223372036854775809 0 0 - unit\n",
		"  const 0 0 0 - 1000000000001\n", "  const 0 0 0 - 01\n", "  const 0 0 0 - \"\n", "  const 0 0 0 - \"a\\b\"\n", "  const 0 0 0 - \"a\" \n", "  const 0 0 0 - chan#0\n", "  const 0 0 0 - Unit\n", "  const 0 0 0 - \"" + strings.Repeat("a", api.MaxText+1) + "\"\n",
		"  guard 0 1 0\n", "  guard 0 1 0 0 0\n", "  guard 0 1 0 0 \n", "  guard  0 1 0 0\n", "  guard 0 1 0 x\n", "  guard 0 1 0 00\n", "  guard\n", "  guards 0 1 0 0\n", " guard 0 1 0 0\n", "guard 0 1 0 0\n", "  guard 0 1 0 0 - unit\n", "  guard 0 0 0 - unit\n",
	} {
		wantNoCode(t, line, 1, api.ErrSyntax)
		wantNoCode(t, "fn f 0 0\n"+line+end, 2, api.ErrSyntax)
		wantNoCode(t, "fn f 0 0\n"+end+"fn g 0 0\n"+end+line+line, 5, api.ErrSyntax)
	}
	for text, line := range map[string]int{
		end: 1, "  guard 0 1 0 0\n": 1, end + "fn f 0 0\n": 1, "fn f 0 2\n" + end + "  guard 0 1 0 0\n" + end: 4, "fn f 0 2\n" + end + "  guard 0 1 0 0\n  guard 0 1 0 0\n" + end + "x": 5, "fn f 0 2\n" + end + "  guard 0 1 0 0\nfn g 0 2\n" + end + "  guard 0 1 0 0\n" + end: 7, "fn f 0 2\n  guard 0 1 0 0\n" + end: 3,
		"fn f 0 0": 1, "fn f 0 0\n  return -1 0 0 - unit": 2, "fn f 0 0\n" + end + " ": 3, "fn f 0 0\n" + end + "\n": 3, "fn f 0 0\n" + end + "fn": 3, "fn f 0 0\n" + end + "\x00": 3, "\nfn f 0 0\n" + end: 1, "fn f 0 2\n" + end + "  guard 0 1 0 0": 3, "fn f 0 0\r\n" + end: 1,
		"fn while 0 0\n" + end + "x\n": 3, "fn f 0 0\nfn f 0 0\nfn f 0\n": 3,
	} {
		wantNoCode(t, text, line, api.ErrSyntax)
	}
}

// TestP104Texts checks that Text and Read correspond to each other on random codes.
func TestP104Texts(t *testing.T) {
	each(t, 1000, func(_ *maker, c api.Code) {
		text, err := Text(c)
		if err != api.OK {
			t.Fatalf("Text of %v: %d", c, err)
		}
		if d, line, err := Read(text); !Same(c, d) || line != 0 || err != api.OK {
			t.Fatalf("Read(%q) = %v, %d, %d", text, d, line, err)
		}
	})
}

// lineForms are what lines look like: of a head, an instruction and a guard.
func lineForms() []*regexp.Regexp {
	number := ` (0|-?[1-9][0-9]*)`
	value := ` (unit|true|false|0|-?([1-9][0-9]{0,11}|10{12})|(chan|task|lock)#([1-9][0-9]{0,11}|10{12})|"([ !#-\[\]-~]|\\"|\\\\)*")`
	return []*regexp.Regexp{
		regexp.MustCompile(`^fn [^ ]+` + number + number + `$`),
		regexp.MustCompile(`^  (` + strings.Join(opNames[1:], "|") + `)` + number + number + number + ` (-|(0|-?[1-9][0-9]*)(,(0|-?[1-9][0-9]*))*)` + value + `$`),
		regexp.MustCompile(`^  guard` + number + number + number + number + `$`),
	}
}

// firstWrong returns the number of the first line that is wrong, 0 if there is none.
func firstWrong(forms []*regexp.Regexp, text string) int {
	heads, guards := 0, 0
	n := 0
	for line := range strings.Lines(text) {
		n++
		one, ended := strings.CutSuffix(line, "\n")
		switch {
		case ended && forms[0].MatchString(one):
			heads++
			guards = 0
		case ended && forms[1].MatchString(one) && heads > 0 && guards == 0:
		case ended && forms[2].MatchString(one) && heads > 0:
			guards++
		default:
			return n
		}
	}
	return 0
}

// TestP102Edited checks random texts with small changes.
func TestP102Edited(t *testing.T) {
	forms := lineForms()
	parts := []string{" ", "  ", "\n", "-", "0", "1", "-1", ",", "x", "fn", "guard", `"`, `\`, "#", "unit", "\t", "\r", "  move 0 0 0 - unit\n", "fn f 0 0\n", "  guard 0 1 0 0\n", ""}
	results := map[api.Errno]int{}
	each(t, 3000, func(m *maker, c api.Code) {
		text, _ := Text(c)
		for range 10 {
			at := m.r.IntN(len(text) + 1)
			until := min(len(text), at+m.r.IntN(3)*m.r.IntN(3))
			edited := text[:at] + parts[m.r.IntN(len(parts))] + text[until:]
			want := firstWrong(forms, edited)
			d, line, err := Read(edited)
			results[err]++
			if line != want || (err == api.ErrSyntax) != (want > 0) {
				t.Fatalf("Read(%q) = %d, %d, want line %d", edited, line, err, want)
			}
			if err != api.OK {
				continue
			}
			if back, err := Text(d); back != edited || err != api.OK {
				t.Fatalf("Text of Read(%q) = %q, %d", edited, back, err)
			}
		}
	})
	if results[api.OK] < 500 || results[api.ErrCode] < 500 || results[api.ErrSyntax] < 1000 {
		t.Errorf("results %v", results)
	}
}
