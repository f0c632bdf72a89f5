// Package together tests layers with each other, on random programs.
package together

import (
	"math/rand/v2"
	"strconv"
	"strings"

	"seedbed/api"
)

// form is a form of a statement that contains: $ the variable that it makes; @ expressions of the kinds of wants; & a call; # blocks, % blocks with the variable, ~ and ^ the same in a loop. A variable that no block has is made in the block of the statement.
type form struct {
	text  string
	wants []int
	makes int
}

// Where a form can stand.
const (
	anywhere = iota
	inLoops
	inFlows
)

func quietForms() []form {
	return []form{
		{"if @ #", []int{api.KBool}, 0}, {"if @ # else #", []int{api.KBool}, 0}, {"if @ # else if @ # else #", []int{api.KBool, api.KBool}, 0}, {"while @ ~", []int{api.KBool}, 0}, {"while true ~", nil, 0}, {"if @ # else #", []int{api.KBool}, 0},
		{"try # catch $ %", nil, api.KText}, {"try # catch $ % finally #", nil, api.KText}, {"try # finally #", nil, 0},
	}
}

func askingForms() []form {
	return []form{
		{"yield;", nil, 0}, {"sleep @;", []int{api.KInt}, 0}, {"await @;", []int{api.KTask}, 0}, {"let $ = await @;", []int{api.KTask}, api.KInt}, {"cancel @;", []int{api.KTask}, 0}, {"throw @;", []int{api.KText}, 0},
		{"receive @;", []int{api.KChan}, 0}, {"let $ = receive @;", []int{api.KChan}, api.KInt}, {"send @, @;", []int{api.KChan, api.KInt}, 0}, {"close @;", []int{api.KChan}, 0},
		{"let $ = chan @;", []int{api.KInt}, api.KChan}, {"let $ = chan @ drop old;", []int{api.KInt}, api.KChan}, {"let $ = lock @;", []int{api.KInt}, api.KLock}, {"let $ = now;", nil, api.KInt},
		{"scope #", nil, 0}, {"scope supervised #", nil, 0}, {"scope within @ #", []int{api.KInt}, 0}, {"shield #", nil, 0}, {"use $ = @ %", []int{api.KInt}, api.KInt}, {"hold @ #", []int{api.KLock}, 0},
		{"select { receive $ from @ % }", []int{api.KChan}, api.KInt}, {"select { receive $ from @ % send @, @ # after @ # else # }", []int{api.KChan, api.KChan, api.KInt, api.KInt}, api.KInt}, {"select { after @ # else # }", []int{api.KInt}, 0},
	}
}

// straightForms returns the asking forms in which no value decides.
func straightForms() []form {
	var list []form
	for _, f := range askingForms() {
		if !strings.Contains(f.text, "select") {
			list = append(list, f)
		}
	}
	return list
}

func placedForms(where int) []form {
	switch where {
	case inLoops:
		return []form{{"break;", nil, 0}, {"continue;", nil, 0}, {"let $ = receive @ else break;", []int{api.KChan}, api.KInt}}
	case inFlows:
		return []form{{"produce @;", []int{api.KInt}, 0}}
	}
	return nil
}

type variable struct {
	name string
	kind int
}

// signature is what a call has to know of a function.
type signature struct {
	name   string
	params []int
	result int
	flow   bool
}

// maker writes random sound programs; but where the number of kinds that are wanted is wrongAt, another one is written, so that the program is not sound.
type maker struct {
	r        *rand.Rand
	wrongAt  int
	wanted   int
	funcs    []signature
	self     signature
	forms    []form
	safe     bool // nothing that can fail is written into expressions
	straight bool // nothing is written whose asks can depend on the values of replies
	seen     []variable
	made     int
	loops    int
	kindText [api.KLock + 1]string
}

func newMaker(seed uint64, wrongAt int) *maker {
	return &maker{r: rand.New(rand.NewPCG(5, seed)), wrongAt: wrongAt, kindText: [api.KLock + 1]string{"", "int", "bool", "text", "chan", "task", "lock"}}
}

func pick[T any](m *maker, list []T) T { return list[m.r.IntN(len(list))] }

func (m *maker) chance(n int) bool { return m.r.IntN(n) == 0 }

func (m *maker) program() string {
	m.funcs = []signature{{name: "main"}}
	for i := range m.r.IntN(5) {
		f := signature{name: "f" + strconv.Itoa(i)}
		for range m.r.IntN(api.MaxParams + 1) {
			f.params = append(f.params, 1+m.r.IntN(api.KLock))
		}
		if f.flow = m.chance(4); !f.flow && m.chance(2) {
			f.result = 1 + m.r.IntN(api.KLock)
		}
		m.funcs = append(m.funcs, f)
	}
	out := ""
	for _, i := range m.r.Perm(len(m.funcs)) {
		out += m.function(m.funcs[i]) + "\n"
	}
	return out
}

func (m *maker) function(f signature) string {
	m.self, m.seen, m.made, m.loops, m.safe = f, nil, 0, 0, m.chance(2)
	m.forms = quietForms()
	for _, x := range askingForms() {
		if m.r.IntN(4) > 0 {
			m.forms = append(m.forms, x)
		}
	}
	switch {
	case m.straight:
		m.forms, m.safe = straightForms(), true
	case m.chance(3):
		m.forms = quietForms()
	}
	var params []string
	for _, kind := range f.params {
		name := m.fresh()
		m.seen = append(m.seen, variable{name, kind})
		params = append(params, name+" "+m.kindText[kind])
	}
	head := "fn " + f.name + "(" + strings.Join(params, ", ") + ") " + m.kindText[f.result]
	if f.flow {
		head += "flow"
	}
	body := m.block(3)
	if f.result != api.KUnit {
		body = strings.TrimSuffix(body, "}") + m.last() + "}"
	}
	return head + body
}

// tail writes a block that ends, or nearly does, for a function whose result is a number and that has a channel c.
func (m *maker) tail(depth int) string {
	if depth == 0 || m.chance(5) {
		list := []string{"return 1;", "return 2;", "throw \"\";", "while true { }", "yield;"}
		if m.loops > 0 {
			list = append(list, "break;", "continue;", "let "+m.fresh()+" = receive c else break;")
		}
		return "{ " + pick(m, list) + " }"
	}
	one := m.tail(depth - 1)
	two := m.tail(depth - 1)
	other := pick(m, []string{one, two, "{ }"})
	list := []string{
		"if a " + one + " else " + two, "if a != b " + one + " else " + two, "if b " + one, "scope " + one, "shield " + one, "use " + m.fresh() + " = 1 " + one, "while a " + one, "while b || a == b " + one, "each " + m.fresh() + " from flow0() " + one,
		"try " + one + " finally " + other, "try " + one + " catch " + m.fresh() + " " + two, "try " + one + " catch " + m.fresh() + " " + two + " finally " + other, "select { after 1 " + one + " after 2 " + two + " else " + other + " }",
	}
	if m.loops == 0 {
		m.loops++
		list = append(list, "while true "+m.tail(depth-1))
		m.loops--
	}
	return "{ " + pick(m, list) + pick(m, []string{"", " yield;"}) + " }"
}

// last ends a function with a result.
func (m *maker) last() string {
	has := m.canHave([]int{m.self.result})
	switch {
	case m.straight && has:
		return "return " + m.want(m.self.result) + ";"
	case m.straight:
		return "throw \"\";"
	case !has:
		return pick(m, []string{"while true { }", "throw \"\";", "while true { if true { continue; } while true { break; } }"})
	case m.chance(3):
		return "if " + m.want(api.KBool) + " { return " + m.want(m.self.result) + "; } else { try { return " + m.want(m.self.result) + "; } finally { } }"
	}
	return "return " + m.want(m.self.result) + ";"
}

func (m *maker) fresh() string {
	m.made++
	return "v" + strconv.Itoa(m.made)
}

// having returns the variables of a kind that are seen.
func (m *maker) having(kind int) []string {
	var list []string
	for _, v := range m.seen {
		if v.kind == kind {
			list = append(list, v.name)
		}
	}
	return list
}

// canHave reports whether there are expressions of some kinds.
func (m *maker) canHave(kinds []int) bool {
	for _, kind := range kinds {
		if kind > api.KText && len(m.having(kind)) == 0 {
			return false
		}
	}
	return true
}

// anyKind is a kind of which there are expressions.
func (m *maker) anyKind() int {
	kind := 1 + m.r.IntN(api.KLock)
	for !m.canHave([]int{kind}) {
		kind = 1 + m.r.IntN(api.KLock)
	}
	return kind
}

// want writes an expression where a kind is wanted.
func (m *maker) want(kind int) string {
	m.wanted++
	if m.wanted-1 == m.wrongAt {
		kind = 1 + kind%api.KText // another one than kind
	}
	return m.expr(kind)
}

// pair writes an operator of two operands.
func (m *maker) pair(kind int, signs ...string) string {
	left := m.want(kind)
	return "(" + left + pick(m, signs) + m.want(kind) + ")"
}

func (m *maker) expr(kind int) string {
	vars := m.having(kind)
	if kind > api.KText || len(vars) > 0 && m.chance(2) {
		return pick(m, vars)
	}
	leaf := map[int][]string{api.KInt: {"0", "1", "7"}, api.KBool: {"true", "false"}, api.KText: {`""`, `"a"`}}[kind]
	if !m.chance(3) {
		return pick(m, leaf)
	}
	switch n := m.r.IntN(4); {
	case kind == api.KBool && n == 0:
		return m.pair(api.KBool, "||", "&&")
	case kind == api.KBool && n == 1:
		return m.pair(pick(m, []int{api.KInt, api.KText}), "<", "<=", ">", ">=")
	case kind == api.KBool && n == 2:
		same := m.anyKind()
		return "(" + m.expr(same) + pick(m, []string{"==", "!="}) + m.want(same) + ")"
	case kind == api.KBool:
		return "!" + m.want(api.KBool)
	case m.safe:
		return pick(m, leaf)
	case kind == api.KText:
		return m.pair(api.KText, "+")
	case n == 0:
		return "-" + m.want(api.KInt)
	}
	return m.pair(api.KInt, "+", "-", "*", "/", "%")
}

// block writes a block in which variables are made first.
func (m *maker) block(depth int, vars ...variable) string {
	before := len(m.seen)
	m.seen = append(m.seen, vars...)
	out := "{"
	for range 1 + m.r.IntN(4) {
		if depth > 0 && m.made < api.MaxVars-2 {
			out += m.stmt(depth-1) + " "
		}
	}
	if depth < 3 {
		m.seen = m.seen[:before]
	}
	return out + "}"
}

func (m *maker) stmt(depth int) string {
	switch n := m.r.IntN(12); {
	case n < 2:
		kind := m.anyKind()
		return m.fill(form{"let $ = @;", nil, kind}, depth)
	case n == 2 && len(m.seen) > 0:
		v := pick(m, m.seen)
		return v.name + " = " + m.want(v.kind) + ";"
	case n == 3:
		return "emit " + m.expr(m.anyKind()) + ";"
	case n < 6:
		return m.call(depth)
	case n == 6 && depth < 2 && m.self.result == api.KUnit:
		return "return;"
	case n == 6 && depth < 2 && m.canHave([]int{m.self.result}):
		return "return " + m.want(m.self.result) + ";"
	}
	forms := m.forms
	if m.loops > 0 {
		forms = append(forms[:len(forms):len(forms)], placedForms(inLoops)...)
	}
	if m.self.flow {
		forms = append(forms[:len(forms):len(forms)], placedForms(inFlows)...)
	}
	if f := pick(m, forms); m.canHave(f.wants) {
		return m.fill(f, depth)
	}
	return m.nothing()
}

func (m *maker) nothing() string {
	if m.straight {
		return "shield { }"
	}
	return "if true { }"
}

// fill writes a statement of a form. A let without wants can have any expression of the kind that it makes.
func (m *maker) fill(f form, depth int, call ...string) string {
	out, own := "", variable{kind: f.makes}
	if f.makes != api.KUnit {
		own.name = m.fresh()
	}
	inBlock := false
	for _, c := range f.text {
		switch c {
		case '$':
			out += own.name
		case '&':
			out += call[0]
		case '@':
			if len(f.wants) == 0 {
				out += m.expr(f.makes)
				continue
			}
			out += m.want(f.wants[0])
			f.wants = f.wants[1:]
		case '#', '~':
			out += m.inner(depth, c == '~')
		case '%', '^':
			inBlock = true
			out += m.inner(depth, c == '^', own)
		default:
			out += string(c)
		}
	}
	if f.makes != api.KUnit && !inBlock {
		m.seen = append(m.seen, own)
	}
	return out
}

func (m *maker) inner(depth int, loop bool, vars ...variable) string {
	if loop {
		m.loops++
		defer func() { m.loops-- }()
	}
	return m.block(depth, vars...)
}

// call writes a call of a function that can be called here.
func (m *maker) call(depth int) string {
	f := pick(m, m.funcs)
	if !m.canHave(f.params) || f.flow && (m.loops > 1 || m.straight) {
		return m.nothing()
	}
	var args []string
	for _, kind := range f.params {
		args = append(args, m.want(kind))
	}
	call := f.name + "(" + strings.Join(args, ", ") + ")"
	switch {
	case f.flow:
		buffer := pick(m, []string{"", "buffer 2 ", "buffer 1 drop old "})
		return m.fill(form{"each $ from & " + buffer + "^", nil, api.KInt}, depth, call)
	case len(m.forms) > len(quietForms()) && (f.result == api.KInt || f.result == api.KUnit) && m.chance(2):
		spawn := pick(m, []form{{"spawn &;", nil, 0}, {"let $ = spawn &;", nil, api.KTask}})
		return m.fill(spawn, depth, call)
	case f.result == api.KUnit || m.chance(3):
		return call + ";"
	}
	return m.fill(form{"let $ = &;", nil, f.result}, depth, call)
}
