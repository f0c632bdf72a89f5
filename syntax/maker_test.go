package syntax

import (
	"math/rand/v2"
	"strconv"
	"strings"

	"seedbed/api"
	"seedbed/lexis"
)

// maker makes random programs that are well formed, and writes them in random ways. nodes is about how many nodes are left.
type maker struct {
	r     *rand.Rand
	nodes int
}

func (m *maker) chance(n int) bool { return m.r.IntN(n) == 0 }

func (m *maker) pick(list ...string) string { return list[m.r.IntN(len(list))] }

func (m *maker) name() string {
	return m.pick("x", "y", "z9", "main", "abcdefghijkl", "lets", "i", "f")
}

func (m *maker) program() api.Program {
	p := api.Program{}
	for range 1 + m.r.IntN(3) {
		p.Funcs = append(p.Funcs, m.function())
	}
	return p
}

func (m *maker) function() api.Func {
	f := api.Func{Name: m.name()}
	for range m.r.IntN(api.MaxParams + 1) {
		f.Params = append(f.Params, api.Param{Name: m.name(), Kind: 1 + m.r.IntN(api.KLock)})
	}
	if m.chance(3) {
		f.Flow = true
	} else {
		f.Result = m.r.IntN(api.KLock + 1)
	}
	f.Body = m.block(1)
	return f
}

func (m *maker) block(depth int) []api.Stmt {
	var list []api.Stmt
	for range m.r.IntN(4) {
		if m.nodes > 0 && depth < api.MaxDepth-4 {
			list = append(list, m.stmt(depth))
		}
	}
	return list
}

func (m *maker) exprs(n int) []api.Expr {
	var list []api.Expr
	for range n {
		list = append(list, m.expr(3))
	}
	return list
}

// expr makes an expression of a depth of at most least.
func (m *maker) expr(most int) api.Expr {
	m.nodes--
	op := api.EInt + m.r.IntN(api.ERem)
	if most == 1 {
		op = api.EInt + m.r.IntN(api.EName)
	}
	e := api.Expr{Op: op}
	switch {
	case op == api.EInt:
		e.N = []int{0, 7, 16, 17, api.MaxInt}[m.r.IntN(5)]
	case op == api.EBool:
		e.N = m.r.IntN(2)
	case op == api.EText:
		e.S = m.pick("", "a", `"\`, "let", "#", "~ !")
	case op == api.EName:
		e.S = m.name()
	case op <= api.ENeg:
		e.Args = []api.Expr{m.expr(most - 1)}
	default:
		left := m.expr(most - 1)
		e.Args = []api.Expr{left, m.expr(most - 1)}
	}
	return e
}

// stmt makes a statement of a depth.
func (m *maker) stmt(depth int) api.Stmt {
	m.nodes--
	s := api.Stmt{Op: api.SLet + m.r.IntN(api.SProduce)}
	switch s.Op {
	case api.SLet, api.SSet, api.SLock:
		s.Name, s.Args = m.name(), m.exprs(1)
	case api.SCall, api.SSpawn:
		s.Name, s.Fn, s.Args = m.pick("", m.name()), m.name(), m.exprs(m.r.IntN(6))
	case api.SAwait, api.SReceive:
		s.Name, s.Args = m.pick("", m.name()), m.exprs(1)
		if s.Op == api.SReceive && s.Name != "" {
			s.Flag = m.r.IntN(2)
		}
	case api.SChan:
		s.Name, s.Args, s.Flag = m.name(), m.exprs(1), m.r.IntN(3)
	case api.SNow:
		s.Name = m.name()
	case api.SSend:
		s.Args = m.exprs(2)
	case api.SClose, api.SSleep, api.SEmit, api.SThrow, api.SCancel, api.SProduce:
		s.Args = m.exprs(1)
	case api.SReturn:
		s.Args = m.exprs(m.r.IntN(2))
	case api.SYield, api.SBreak, api.SContinue:
	default:
		m.large(depth, &s)
	}
	return s
}

// large fills a statement that contains statements.
func (m *maker) large(depth int, s *api.Stmt) {
	if s.Op != api.SSelect {
		s.Body = m.block(depth + 1)
	}
	switch s.Op {
	case api.SIf:
		s.Args, s.Flag = m.exprs(1), m.r.IntN(2)
		if s.Flag == 1 {
			s.Other = m.block(depth + 1)
		}
	case api.SWhile, api.SHold:
		s.Args = m.exprs(1)
	case api.SScope:
		s.Args, s.Flag = m.exprs(m.r.IntN(2)), m.r.IntN(2)
	case api.STry:
		s.Flag = 1 + m.r.IntN(3)
		if s.Flag != 2 {
			s.Name, s.Other = m.name(), m.block(depth+1)
		}
		if s.Flag != 1 {
			s.Last = m.block(depth + 1)
		}
	case api.SUse:
		s.Name, s.Args = m.name(), m.exprs(1)
	case api.SEach:
		s.Name, s.Fn, s.Args = m.name(), m.name(), m.exprs(m.r.IntN(3))
		s.Flag = 4*m.r.IntN(17) + m.r.IntN(3)
	case api.SSelect:
		count := 1 + m.r.IntN(api.MaxCases)
		for i := range count {
			s.Cases = append(s.Cases, m.arm(depth+1, i == count-1))
		}
	}
}

func (m *maker) arm(depth int, last bool) api.Case {
	m.nodes--
	k := api.Case{Op: api.CReceive + m.r.IntN(3), Body: m.block(depth + 1)}
	if last && m.chance(2) {
		k.Op = api.CElse
	}
	switch k.Op {
	case api.CReceive:
		k.Name, k.Args = m.name(), m.exprs(1)
	case api.CSend:
		k.Args = m.exprs(2)
	case api.CAfter:
		k.Args = m.exprs(1)
	}
	return k
}

// glue joins parts with random gaps.
func (m *maker) glue(parts ...string) string {
	out := parts[0]
	for _, p := range parts[1:] {
		if p != "" {
			out += m.pick(" ", " ", " ", "\n", "\t", " # x {\n") + p
		}
	}
	return out
}

func (m *maker) write(p api.Program) string {
	var list []string
	for _, f := range p.Funcs {
		list = append(list, m.writeFunc(f))
	}
	return m.glue(list...)
}

var kindWords = []string{"", "int", "bool", "text", "chan", "task", "lock"}

func (m *maker) writeFunc(f api.Func) string {
	var list []string
	for _, q := range f.Params {
		list = append(list, m.glue(q.Name, kindWords[q.Kind]))
	}
	out := m.glue("fn", f.Name, "("+strings.Join(list, ",")+")", kindWords[f.Result])
	if f.Flow {
		out = m.glue(out, "flow")
	}
	return m.glue(out, m.writeBlock(f.Body))
}

func (m *maker) writeBlock(list []api.Stmt) string {
	out := "{"
	for _, s := range list {
		out = m.glue(out, m.writeStmt(s))
	}
	return m.glue(out, "}")
}

var signsOf = map[int]string{api.EOr: "||", api.EAnd: "&&", api.EEq: "==", api.ENe: "!=", api.ELt: "<", api.ELe: "<=", api.EGt: ">", api.EGe: ">=", api.EAdd: "+", api.ESub: "-", api.EMul: "*", api.EDiv: "/", api.ERem: "%"}

// levels are the operators' levels; what has a level below least stands in parentheses.
var levels = map[int]int{api.EOr: 1, api.EAnd: 2, api.EEq: 3, api.ENe: 3, api.ELt: 4, api.ELe: 4, api.EGt: 4, api.EGe: 4, api.EAdd: 5, api.ESub: 5, api.EMul: 6, api.EDiv: 6, api.ERem: 6}

func (m *maker) writeExpr(e api.Expr, least int) string {
	out := ""
	switch e.Op {
	case api.EInt:
		out = strconv.Itoa(e.N)
	case api.EBool:
		out = []string{"false", "true"}[e.N]
	case api.EText:
		out, _ = lexis.Quote(e.S)
	case api.EName:
		out = e.S
	case api.ENot:
		out = "!" + m.writeExpr(e.Args[0], 7)
	case api.ENeg:
		out = "-" + m.writeExpr(e.Args[0], 7)
	default:
		level := levels[e.Op]
		out = m.glue(m.writeExpr(e.Args[0], level), signsOf[e.Op], m.writeExpr(e.Args[1], level+1))
		if level < least {
			return "(" + out + ")"
		}
	}
	if m.chance(12) {
		return "( " + out + ")"
	}
	return out
}

func (m *maker) writeAll(list []api.Expr) string {
	var out []string
	for _, e := range list {
		out = append(out, m.writeExpr(e, 0))
	}
	return strings.Join(out, ",")
}

func (m *maker) writeStmt(s api.Stmt) string {
	args := m.writeAll(s.Args)
	let := ""
	if s.Name != "" {
		let = m.glue("let", s.Name, "=")
	}
	line := func(parts ...string) string {
		if let == "" {
			return m.glue(parts...) + ";"
		}
		return m.glue(append([]string{let}, parts...)...) + ";"
	}
	policy := []string{"", "drop old", "drop new"}
	switch s.Op {
	case api.SLet:
		return line(args)
	case api.SSet:
		return s.Name + "=" + args + ";"
	case api.SCall:
		return line(s.Fn + "(" + args + ")")
	case api.SSpawn:
		return line("spawn", s.Fn+"("+args+")")
	case api.SAwait:
		return line("await", args)
	case api.SReceive:
		return line("receive", args, []string{"", "else break"}[s.Flag])
	case api.SChan:
		return line("chan", args, policy[s.Flag])
	case api.SLock:
		return line("lock", args)
	case api.SNow:
		return line("now")
	}
	word := map[int]string{api.SSend: "send", api.SClose: "close", api.SSleep: "sleep", api.SYield: "yield", api.SEmit: "emit", api.SThrow: "throw", api.SCancel: "cancel", api.SReturn: "return", api.SBreak: "break", api.SContinue: "continue", api.SProduce: "produce"}[s.Op]
	if word != "" {
		return m.glue(word, args) + ";"
	}
	return m.writeLarge(s, args)
}

func (m *maker) writeLarge(s api.Stmt, args string) string {
	body := m.writeBlock(s.Body)
	switch s.Op {
	case api.SIf:
		out := m.glue("if", args, body)
		if s.Flag == 0 {
			return out
		}
		if len(s.Other) == 1 && s.Other[0].Op == api.SIf && m.chance(2) {
			return m.glue(out, "else", m.writeStmt(s.Other[0]))
		}
		return m.glue(out, "else", m.writeBlock(s.Other))
	case api.SWhile:
		return m.glue("while", args, body)
	case api.SScope:
		out := m.glue("scope", []string{"", "supervised"}[s.Flag])
		if args != "" {
			out = m.glue(out, "within", args)
		}
		return m.glue(out, body)
	case api.SShield:
		return m.glue("shield", body)
	case api.STry:
		out := m.glue("try", body)
		if s.Flag&1 != 0 {
			out = m.glue(out, "catch", s.Name, m.writeBlock(s.Other))
		}
		if s.Flag&2 != 0 {
			out = m.glue(out, "finally", m.writeBlock(s.Last))
		}
		return out
	case api.SUse:
		return m.glue("use", s.Name, "=", args, body)
	case api.SHold:
		return m.glue("hold", args, body)
	case api.SEach:
		out := m.glue("each", s.Name, "from", s.Fn+"("+args+")")
		if s.Flag > 0 || m.chance(2) {
			out = m.glue(out, "buffer", strconv.Itoa(s.Flag/4), []string{"", "drop old", "drop new"}[s.Flag%4])
		}
		return m.glue(out, body)
	}
	out := "select {"
	for _, k := range s.Cases {
		out = m.glue(out, m.writeCase(k))
	}
	return m.glue(out, "}")
}

func (m *maker) writeCase(k api.Case) string {
	args, body := m.writeAll(k.Args), m.writeBlock(k.Body)
	switch k.Op {
	case api.CReceive:
		return m.glue("receive", k.Name, "from", args, body)
	case api.CSend:
		return m.glue("send", args, body)
	case api.CAfter:
		return m.glue("after", args, body)
	}
	return m.glue("else", body)
}
