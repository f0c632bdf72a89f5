package code

import (
	"math"
	"slices"
	"strconv"
	"strings"
	"testing"

	"seedbed/api"
)

// formLines are the forms of all instructions, in the manner of the text of a code: s is a slot, m a slot or -1, d a slot with another one after it, p a place, u and b are operators of one and two operands, f is a function, e is 0 or 1, h from 0 to 2, numbers are themselves; * stands for as many slots as the function has parameters, + for one or more places.
const formLines = `const s 0 0 -
move s s 0 -
unary s u s -
binary s b s s
jump p 0 0 -
false s p 0 -
call m f 0 *
return m 0 0 -
throw s 0 0 -
arm 1 0 0 s
arm 2 0 0 s,s
arm 3 0 0 s
switch s 0 0 +
fault s p 0 -
raise d 0 0 -
ask m 1 0 -
ask m 2 0 s
ask m 3 0 s
ask m 4 0 -
ask m 5 f *
ask m 6 0 s
ask m 7 0 s
ask m 8 h s
ask m 9 0 s,s
ask m 10 0 s
ask m 11 0 s
ask m 12 0 s
ask m 13 0 s
ask m 14 0 s
ask m 15 e s
ask m 16 e -
ask m 16 e s
ask m 17 0 -
ask m 17 0 d
ask m 18 0 -
ask m 19 0 -
ask m 20 0 s
ask m 21 0 s`

// lastNames are the names of the instructions that can be the last one.
var lastNames = []string{"jump", "return", "throw", "switch", "raise"}

// opNames are the names of the instructions, by their Ops.
var opNames = []string{"", "const", "move", "unary", "binary", "jump", "false", "call", "return", "throw", "ask", "arm", "switch", "fault", "raise"}

// lettersOf returns the words of all lines for an Op: for A, B, C and L.
func lettersOf(op int) [][]string {
	var list [][]string
	for line := range strings.Lines(formLines) {
		if words := strings.Fields(line); op > 0 && op < len(opNames) && words[0] == opNames[op] {
			list = append(list, words[1:])
		}
	}
	return list
}

// lettersFit reports whether a number is what a letter says, in a function of a code.
func lettersFit(letter string, n int, f api.FnCode, c api.Code) bool {
	switch letter {
	case "s":
		return n >= 0 && n < f.Slots
	case "m":
		return n >= -1 && n < f.Slots
	case "d":
		return n >= 0 && n < f.Slots-1
	case "p":
		return n >= 0 && n < len(f.Code)
	case "u":
		return n == api.ENot || n == api.ENeg
	case "b":
		return n >= api.EEq && n <= api.ERem
	case "f":
		return n >= 0 && n < len(c.Funcs)
	case "e":
		return n == 0 || n == 1
	case "h":
		return n == 0 || n == 1 || n == 2
	}
	return strconv.Itoa(n) == letter
}

// listLetters returns the letters of what L should contain; fn is the function in B or C.
func listLetters(word string, fn int, list []int, c api.Code) []string {
	switch word {
	case "-":
		return nil
	case "*":
		return slices.Repeat([]string{"s"}, c.Funcs[fn].Params)
	case "+":
		return slices.Repeat([]string{"p"}, max(1, len(list)))
	}
	return strings.Split(word, ",")
}

// isFormed reports whether an instruction of a function is as one of the lines says, but for its value.
func isFormed(in api.Instr, f api.FnCode, c api.Code) bool {
	return slices.ContainsFunc(lettersOf(in.Op), func(words []string) bool {
		fn := 0
		for i, n := range []int{in.A, in.B, in.C} {
			if !lettersFit(words[i], n, f, c) {
				return false
			}
			if words[i] == "f" {
				fn = n
			}
		}
		return slices.EqualFunc(listLetters(words[3], fn, in.L, c), in.L, func(letter string, n int) bool { return lettersFit(letter, n, f, c) })
	})
}

func wantCheck(t *testing.T, what string, c api.Code, want api.Errno) {
	t.Helper()
	if err := Check(c); err != want {
		t.Errorf("Check of %s: %d, want %d", what, err, want)
	}
	if want == api.OK {
		return
	}
	if n, err := Size(c); n != 0 || err != want {
		t.Errorf("Size of %s = %d, %d", what, n, err)
	}
	if d, err := Clone(c); !Same(d, api.Code{}) || err != want {
		t.Errorf("Clone of %s = %v, %d", what, d, err)
	}
	if text, err := Text(c); text != "" || err != want {
		t.Errorf("Text of %s = %q, %d", what, text, err)
	}
	if list, err := Reached(c, 0); len(list) != 0 || err != want {
		t.Errorf("Reached of %s = %v, %d", what, list, err)
	}
}

// around puts an instruction into a function with three slots and four places, of a code with functions of 0 and of 2 parameters.
func around(in api.Instr) api.Code {
	back := api.Instr{Op: api.IReturn, A: -1}
	return api.Code{Funcs: []api.FnCode{
		{Name: "main", Slots: 3, Code: []api.Instr{back, in, back, back}},
		{Name: "f", Params: 2, Slots: 2, Code: []api.Instr{back}},
	}}
}

// TestP101Instructions checks all instructions with small fields.
func TestP101Instructions(t *testing.T) {
	lists := [][]int{nil, {}, {0}, {2}, {3}, {4}, {-1}, {0, 1}, {1, 1}, {2, 3}, {-1, 0}, {0, 1, 2}, {3, 3, 3, 3, 3}, {0, 4}}
	fit := 0
	for op := -1; op <= len(opNames); op++ {
		for a := -2; a < 5; a++ {
			for b := -2; b < 23; b++ {
				for c := -2; c < 5; c++ {
					for _, l := range lists {
						in := api.Instr{Op: op, A: a, B: b, C: c, L: l}
						x := around(in)
						want := api.ErrCode
						if isFormed(in, x.Funcs[0], x) {
							want = api.OK
							fit++
						}
						if err := Check(x); err != want {
							t.Fatalf("Check with %v: %d, want %d", in, err, want)
						}
					}
				}
			}
		}
	}
	if fit < 500 {
		t.Errorf("only %d fit", fit)
	}
}

// TestP101Large checks fields that are far out of their range.
func TestP101Large(t *testing.T) {
	for op := range opNames {
		for _, words := range lettersOf(op) {
			for _, n := range []int{math.MinInt, math.MaxInt, 1 << 32, -1 << 31} {
				good := fill(words, op)
				wantCheck(t, "a good one", around(good), api.OK)
				for field := range 3 {
					in := good
					*[]*int{&in.A, &in.B, &in.C}[field] = n
					wantCheck(t, opNames[op]+" with "+strconv.Itoa(n), around(in), api.ErrCode)
				}
				for i := range good.L {
					in := good
					in.L = slices.Clone(good.L)
					in.L[i] = n
					wantCheck(t, opNames[op]+" with "+strconv.Itoa(n)+" in L", around(in), api.ErrCode)
				}
			}
		}
	}
}

// fill makes an instruction of a line.
func fill(words []string, op int) api.Instr {
	least := map[string]int{"u": api.ENot, "b": api.EEq, "f": 1}
	in := api.Instr{Op: op}
	for i, word := range words[:3] {
		n, ok := least[word]
		if !ok {
			n, _ = strconv.Atoi(word) // 0 of other letters
		}
		*[]*int{&in.A, &in.B, &in.C}[i] = n
	}
	in.L = make([]int, len(listLetters(words[3], 1, nil, around(in))))
	return in
}

// TestP101Values checks that only an IConst has a value, and a valid one.
func TestP101Values(t *testing.T) {
	valid := []api.Value{{Kind: api.KInt, N: 1}, {Kind: api.KInt, N: -api.MaxInt}, {Kind: api.KBool, N: 1}, {Kind: api.KText, S: "a b"}, {Kind: api.KChan, N: 1}, {Kind: api.KTask, N: 2}, {Kind: api.KLock, N: api.MaxInt}, {Kind: api.KInt}, {Kind: api.KText}}
	wrong := []api.Value{{Kind: api.KInt, N: api.MaxInt + 1}, {Kind: api.KBool, N: 2}, {Kind: api.KText, S: "\n"}, {Kind: api.KText, S: strings.Repeat("a", api.MaxText+1)}, {Kind: api.KChan}, {Kind: 7, N: 1}, {N: 1}, {S: "a"}, {Kind: -1}}
	for op := range opNames {
		for _, words := range lettersOf(op) {
			in := fill(words, op)
			for _, v := range valid {
				in.V = v
				want := api.ErrCode
				if op == api.IConst {
					want = api.OK
				}
				wantCheck(t, opNames[op]+" with a value", around(in), want)
			}
			for _, v := range wrong {
				in.V = v
				wantCheck(t, opNames[op]+" with no value", around(in), api.ErrCode)
			}
		}
	}
}

// TestP101Last checks which instruction can be the last one.
func TestP101Last(t *testing.T) {
	for op := range opNames {
		for _, words := range lettersOf(op) {
			c := around(api.Instr{Op: api.IReturn})
			list := c.Funcs[0].Code
			list[len(list)-1] = fill(words, op)
			want := api.ErrCode
			if slices.Contains(lastNames, opNames[op]) {
				want = api.OK
			}
			wantCheck(t, opNames[op]+" as the last one", c, want)
		}
	}
}

// TestP101Name checks the names of instructions.
func TestP101Name(t *testing.T) {
	for op, want := range opNames {
		if got := Name(op); got != want {
			t.Errorf("Name(%d) = %q, want %q", op, got, want)
		}
	}
	for _, op := range []int{-1, len(opNames), 100, math.MaxInt, math.MinInt} {
		if got := Name(op); got != "" {
			t.Errorf("Name(%d) = %q", op, got)
		}
	}
}
