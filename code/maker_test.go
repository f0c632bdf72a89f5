package code

import (
	"math/rand/v2"
	"slices"
	"strconv"
	"strings"
	"testing"

	"seedbed/api"
)

// maker writes random valid codes, by formLines.
type maker struct {
	r *rand.Rand
	c api.Code
	f *api.FnCode
}

// newMaker makes a maker with a code of functions without instructions.
func newMaker(seed uint64) *maker {
	m := &maker{r: rand.New(rand.NewPCG(10, seed))}
	for i := range 1 + m.r.IntN(4) {
		params := m.r.IntN(api.MaxParams + 2)
		m.c.Funcs = append(m.c.Funcs, api.FnCode{Name: "f" + strconv.Itoa(i), Params: params, Slots: params + m.r.IntN(4)})
	}
	return m
}

// code makes a code, and checks that it is valid.
func (m *maker) code(t *testing.T) api.Code {
	t.Helper()
	for i := range m.c.Funcs {
		m.f = &m.c.Funcs[i]
		m.f.Code = make([]api.Instr, 1+m.r.IntN(20))
		last := len(m.f.Code) - 1
		for at := range last {
			m.f.Code[at] = m.instr(func(name string) bool { return true })
			if m.r.IntN(6) == 0 {
				m.arms(at)
			}
		}
		m.f.Code[last] = m.instr(func(name string) bool { return slices.Contains(lastNames, name) })
		m.thin()
		for range m.r.IntN(5) {
			m.guard(len(m.f.Code))
		}
	}
	if err := Check(m.c); err != api.OK {
		t.Fatalf("Check of %v: %d", m.c, err)
	}
	return m.c
}

// arms writes an ask of a select, and as many arms before it as there is room for.
func (m *maker) arms(at int) {
	lines := strings.Split(formLines, "\n")
	write := func(place int, begin string) {
		for _, i := range m.r.Perm(len(lines)) {
			if strings.HasPrefix(lines[i], begin) && m.canFill(lines[i]) {
				m.f.Code[place] = m.fill(lines[i])
				return
			}
		}
	}
	write(at, "ask m 15 ")
	for n := range m.r.IntN(min(at, api.MaxCases) + 1) {
		write(at-1-n, "arm ")
	}
}

// thin takes an arm out of each row that is too long.
func (m *maker) thin() {
	row := 0
	for at, in := range m.f.Code {
		if row++; in.Op != api.IArm {
			row = 0
		}
		if row > api.MaxCases {
			m.f.Code[at] = api.Instr{Op: api.IAsk, A: -1, B: api.AYield}
			row = 0
		}
	}
}

func (m *maker) guard(places int) {
	if m.f.Slots < 2 {
		return
	}
	from := m.r.IntN(places)
	m.f.Guards = append(m.f.Guards, api.Guard{From: from, To: from + 1 + m.r.IntN(places-from), At: m.r.IntN(places), Slot: m.r.IntN(m.f.Slots - 1)})
}

// instr makes an instruction whose name is one of those wanted.
func (m *maker) instr(wanted func(name string) bool) api.Instr {
	lines := strings.Split(formLines, "\n")
	for {
		line := lines[m.r.IntN(len(lines))]
		if name, _, _ := strings.Cut(line, " "); wanted(name) && m.canFill(line) {
			return m.fill(line)
		}
	}
}

// canFill reports whether there are slots enough for a line.
func (m *maker) canFill(line string) bool {
	need := 0
	for _, word := range strings.FieldsFunc(line, func(c rune) bool { return c == ' ' || c == ',' }) {
		need = max(need, map[string]int{"s": 1, "*": 1, "d": 2}[word])
	}
	return m.f.Slots >= need
}

func (m *maker) fill(line string) api.Instr {
	words := strings.Fields(line)
	in := api.Instr{Op: slices.Index(opNames, words[0])}
	fn := 0
	for i, word := range words[1:4] {
		n := m.letter(word)
		*[]*int{&in.A, &in.B, &in.C}[i] = n
		if word == "f" {
			fn = n
		}
	}
	for _, letter := range listLetters(words[4], fn, make([]int, m.r.IntN(4)), m.c) {
		in.L = append(in.L, m.letter(letter))
	}
	if in.Op == api.IConst {
		in.V = m.value()
	}
	return in
}

// letter makes a number that is what a letter says.
func (m *maker) letter(letter string) int {
	switch letter {
	case "s":
		return m.r.IntN(m.f.Slots)
	case "m":
		return m.r.IntN(m.f.Slots+1) - 1
	case "d":
		return m.r.IntN(m.f.Slots - 1)
	case "p":
		return m.r.IntN(len(m.f.Code))
	case "u":
		return api.ENot + m.r.IntN(2)
	case "b":
		return api.EEq + m.r.IntN(api.ERem-api.EEq+1)
	case "f":
		return m.r.IntN(len(m.c.Funcs))
	case "e":
		return m.r.IntN(2)
	case "h":
		return m.r.IntN(3)
	}
	n, _ := strconv.Atoi(letter)
	return n
}

// value makes a valid value.
func (m *maker) value() api.Value {
	switch kind := m.r.IntN(api.KLock + 1); kind {
	case api.KUnit:
		return api.Value{}
	case api.KInt:
		return api.Value{Kind: kind, N: []int{0, 1, 1, 2, -1, -7, 12, api.MaxInt, -api.MaxInt}[m.r.IntN(9)]}
	case api.KBool:
		return api.Value{Kind: kind, N: m.r.IntN(2)}
	case api.KText:
		return api.Value{Kind: kind, S: []string{"", "a", " a  b", `"`, `\`, "fn f 0 0", "-", ","}[m.r.IntN(8)]}
	default:
		return api.Value{Kind: kind, N: 1 + m.r.IntN(20)}
	}
}

// each visits random codes.
func each(t *testing.T, seeds uint64, visit func(m *maker, c api.Code)) {
	t.Helper()
	for seed := range seeds {
		m := newMaker(seed)
		visit(m, m.code(t))
	}
}
