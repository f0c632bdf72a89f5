package names

import (
	"math/rand/v2"
	"strconv"
	"strings"
)

// signature is what a call has to know of a function.
type signature struct {
	name   string
	params int
	result bool
	flow   bool
}

// maker writes random programs. One of wrong choices is made without heeding what is seen and allowed.
type maker struct {
	r     *rand.Rand
	wrong int
	funcs []signature
	self  signature
	seen  []string
	loops int
}

func (m *maker) errs() bool { return m.r.IntN(m.wrong) == 0 }

func (m *maker) pick(list ...string) string { return list[m.r.IntN(len(list))] }

func (m *maker) some() string { return string(rune('a'+m.r.IntN(8))) + m.pick("", "0") }

// fresh is a name that is not seen, if there is no mistake.
func (m *maker) fresh() string {
	name := m.some()
	for i := 0; i < 20 && m.isSeen(name) && !m.errs(); i++ {
		name = m.some()
	}
	return name
}

func (m *maker) isSeen(name string) bool {
	return strings.Contains(" "+strings.Join(m.seen, " ")+" ", " "+name+" ")
}

func (m *maker) old() string {
	if len(m.seen) == 0 || m.errs() {
		return m.some()
	}
	return m.pick(m.seen...)
}

func (m *maker) expr() string {
	switch n := m.r.IntN(6); {
	case n == 0:
		return m.expr() + m.pick("+", "*", "==", "||") + m.expr()
	case n == 1:
		return m.pick("-", "!") + "(" + m.expr() + ")"
	case n == 2 || len(m.seen) == 0:
		return m.pick("1", "true", `"a"`, "0")
	}
	return m.old()
}

// call writes a call of a function, or of a flow.
func (m *maker) call(flow bool) string {
	fits := []signature{m.funcs[0]}
	for _, f := range m.funcs {
		if f.flow == flow {
			fits = append(fits, f)
		}
	}
	f := fits[len(fits)-1-m.r.IntN(max(len(fits)-1, 1))]
	if m.errs() {
		f = m.funcs[m.r.IntN(len(m.funcs))]
	}
	if m.errs() {
		f.params = m.r.IntN(5)
	}
	if m.errs() {
		f.name = "q9"
	}
	var args []string
	for range f.params {
		args = append(args, m.expr())
	}
	return f.name + "(" + strings.Join(args, ",") + ")"
}

func (m *maker) hasFlow() bool {
	for _, f := range m.funcs {
		if f.flow {
			return true
		}
	}
	return m.errs()
}

func (m *maker) program() string {
	m.funcs = []signature{{name: "main"}}
	for i := range m.r.IntN(4) {
		f := signature{name: "f" + strconv.Itoa(i), params: m.r.IntN(3)}
		switch m.r.IntN(3) {
		case 0:
			f.flow = true
		case 1:
			f.result = true
		}
		m.funcs = append(m.funcs, f)
	}
	if m.errs() {
		m.funcs[m.r.IntN(len(m.funcs))] = signature{name: m.pick("main", "f0", "f1"), params: m.r.IntN(2), flow: m.errs()}
	}
	out := ""
	for _, i := range m.r.Perm(len(m.funcs)) {
		out += m.function(m.funcs[i])
	}
	return out
}

func (m *maker) function(f signature) string {
	m.self, m.seen, m.loops = f, nil, 0
	var params []string
	for range f.params {
		name := m.fresh()
		m.seen = append(m.seen, name)
		params = append(params, name+" int")
	}
	kind := ""
	if f.flow {
		kind = "flow"
	} else if f.result {
		kind = "int"
	}
	return "fn " + f.name + "(" + strings.Join(params, ",") + ")" + kind + m.block(4)
}

// block writes a block in which variables are made first.
func (m *maker) block(depth int, vars ...string) string {
	before := len(m.seen)
	m.seen = append(m.seen, vars...)
	out := "{"
	for range m.r.IntN(5) {
		out += m.stmt(depth)
	}
	m.seen = m.seen[:before]
	return out + "}"
}

func (m *maker) loop(depth int, vars ...string) string {
	m.loops++
	defer func() { m.loops-- }()
	return m.block(depth, vars...)
}

func (m *maker) let(what string) string {
	name := m.fresh()
	m.seen = append(m.seen, name)
	return "let " + name + "=" + what + ";"
}

func (m *maker) stmt(depth int) string {
	n := m.r.IntN(20)
	switch {
	case n < 3:
		return m.let(m.pick(m.expr(), "spawn "+m.call(false), "receive "+m.expr(), "now", "chan "+m.expr(), m.call(false)))
	case n < 5:
		e := m.expr()
		return m.old() + "=" + e + ";"
	case n < 7:
		return m.pick("", "spawn ") + m.call(false) + ";"
	case n < 9:
		return m.pick("emit ", "send 1,", "sleep ") + m.expr() + ";"
	case n < 11:
		return m.placed()
	case depth == 0:
		return "yield;"
	}
	return m.large(n, depth-1)
}

// placed writes a statement that is not allowed everywhere.
func (m *maker) placed() string {
	switch n := m.r.IntN(4); {
	case n == 0 && (m.loops > 0 || m.errs()):
		return m.pick("break;", "continue;")
	case n == 1 && (m.loops > 0 || m.errs()):
		return m.let("receive " + m.expr() + " else break")
	case n == 2 && (m.self.flow || m.errs()):
		return "produce " + m.expr() + ";"
	case m.self.result != m.errs():
		return "return " + m.expr() + ";"
	}
	return "return;"
}

func (m *maker) large(n, depth int) string {
	switch n {
	case 11:
		return "if " + m.expr() + m.block(depth)
	case 12:
		return "if " + m.expr() + m.block(depth) + "else " + m.pick(m.block(depth), "if "+m.expr()+m.block(depth)+"else"+m.block(depth))
	case 13:
		return "while " + m.expr() + m.loop(depth)
	case 14:
		return m.pick("scope", "shield", "scope within "+m.expr(), "hold "+m.expr()) + m.block(depth)
	case 15:
		e, name := m.expr(), m.fresh()
		return "use " + name + "=" + e + m.block(depth, name)
	case 16:
		body, name := m.block(depth), m.fresh()
		return "try" + body + "catch " + name + m.block(depth, name) + m.pick("", "finally"+m.block(depth))
	case 17:
		return "try" + m.block(depth) + "finally" + m.block(depth)
	case 18:
		if m.hasFlow() {
			call, name := m.call(true), m.fresh()
			return "each " + name + " from " + call + m.loop(depth, name)
		}
	}
	name := m.fresh()
	out := "select{receive " + name + " from " + m.expr() + m.block(depth, name)
	return out + m.pick("", "send 1,"+m.expr()+m.block(depth)) + m.pick("", "else"+m.block(depth)) + "}"
}
