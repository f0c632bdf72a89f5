package print

import (
	"math/rand/v2"
	"slices"
	"strings"
	"testing"

	"seedbed/api"
	"seedbed/lexis"
	"seedbed/syntax"
)

// everything has each production of the grammar, with a statement in each block that there can be.
const everything = `fn main() { let a = f(1, 2); let b = spawn g(); spawn g(x); let c = await b; let d = receive e else break; let d = receive e; let e = chan 3 drop old; let e = chan 0; let e = chan 1 drop new; let h = lock 1; let i = now; let j = i;
	a = 1; g(); g(x, 1, 2); await b; receive e; send e, 2; close e; sleep 1; yield; emit "x"; throw "y"; cancel b; return; return 1; break; continue; produce 1; }
fn f(x int, y bool, z chan) text { if x { yield; } if x { yield; } else { yield; } if x { yield; } else { yield; } if x { yield; } else if y { yield; } else { yield; }
	while y { yield; } scope supervised within 5 { yield; } scope { yield; } scope supervised { yield; } scope within 1 { yield; } shield { yield; } }
fn g(x text, y task, z lock) flow { try { yield; } catch k { yield; } finally { yield; } try { yield; } catch k { yield; } try { yield; } finally { yield; } use r = 1 { yield; } hold h { yield; }
	select { receive v from x { yield; } send x, 1 { yield; } after 2 { yield; } else { yield; } } select { after 1 { yield; } } select { receive v from x { yield; } }
	each v from g(x) buffer 3 drop new { yield; } each v from g() buffer 0 drop old { yield; } each v from g() { yield; } each v from g() buffer 16 { yield; } }
fn h() { f(0, 12, 1000000000000, true, false, "", "a\"\\ ", x, y1, !x, -x, x || y, x && y, x == y, x != y, x < y, x <= y, x > y, x >= y, x + y, x - y, x * y, x / y, x % y); }
`

// grafter makes random programs of the parts of one.
type grafter struct {
	r     *rand.Rand
	funcs []api.Func
	stmts []api.Stmt
	exprs []api.Expr
}

func newGrafter(t *testing.T, r *rand.Rand) *grafter {
	g := &grafter{r: r, funcs: parsed(t, everything).Funcs}
	for _, f := range g.funcs {
		g.stmts = append(g.stmts, f.Body...)
	}
	g.exprs = g.stmts[len(g.stmts)-1].Args
	return g
}

func (g *grafter) program() api.Program {
	p := api.Program{}
	for range 1 + g.r.IntN(3) {
		f := g.funcs[g.r.IntN(len(g.funcs))]
		f.Body = g.block(f.Body, 4)
		p.Funcs = append(p.Funcs, f)
	}
	return p
}

// block makes another block of one, none if there was none.
func (g *grafter) block(old []api.Stmt, depth int) []api.Stmt {
	var list []api.Stmt
	if len(old) > 0 && depth > 0 {
		for range g.r.IntN(4) {
			list = append(list, g.stmt(depth))
		}
	}
	return list
}

func (g *grafter) stmt(depth int) api.Stmt {
	s := g.stmts[g.r.IntN(len(g.stmts)-1)]
	s.Args = g.list(s.Args)
	s.Body, s.Other, s.Last = g.block(s.Body, depth-1), g.block(s.Other, depth-1), g.block(s.Last, depth-1)
	s.Cases = slices.Clone(s.Cases)
	for i := range s.Cases {
		k := &s.Cases[i]
		k.Args, k.Body = g.list(k.Args), g.block(k.Body, depth-2)
	}
	return s
}

func (g *grafter) list(old []api.Expr) []api.Expr {
	var list []api.Expr
	for range old {
		list = append(list, g.expr(g.r.IntN(4)))
	}
	return list
}

func (g *grafter) expr(depth int) api.Expr {
	e := g.exprs[g.r.IntN(len(g.exprs))]
	if depth == 0 {
		return g.exprs[g.r.IntN(9)]
	}
	e.Args = slices.Clone(e.Args)
	for i := range e.Args {
		e.Args[i] = g.expr(depth - 1)
	}
	return e
}

func sameExpr(e, f api.Expr) bool {
	emits := func(e api.Expr) api.Program {
		return api.Program{Funcs: []api.Func{{Body: []api.Stmt{{Args: []api.Expr{e}}}}}}
	}
	return syntax.Same(emits(e), emits(f))
}

// TestP33Programs checks that programs are read as they were printed, and printed as layout has it.
func TestP33Programs(t *testing.T) {
	r := rand.New(rand.NewPCG(3, 3))
	g := newGrafter(t, r)
	read := 0
	for range 4000 {
		p := g.program()
		text, err := Text(p)
		if syntax.Check(p) != api.OK {
			wantNoProgram(t, "too much", p)
			continue
		}
		short, err2 := Short(p)
		if err != api.OK || err2 != api.OK || strings.Contains(short, "\n") || !strings.HasSuffix(text, "}\n") {
			t.Fatalf("Text, Short: %d, %d\n%s\n%s", err, err2, text, short)
		}
		if len(text) > api.MaxSource {
			continue
		}
		read++
		for _, source := range []string{text, short} {
			q, at, err := syntax.Parse(source)
			if err != api.OK || !syntax.Same(p, q) {
				t.Errorf("Parse: %d at %d\n%s", err, at, source)
			}
			if again, err := Text(q); again != text || err != api.OK {
				t.Errorf("Text of Text: %d\n%s\nwant\n%s", err, again, text)
			}
		}
		if want := layout(t, text); text != want {
			t.Errorf("Text is\n%s\nwant\n%s", text, want)
		}
	}
	if read < 2000 {
		t.Errorf("only %d programs are read", read)
	}
}

// TestP31Together checks that the texts of statements and expressions are those in the text of a program.
func TestP31Together(t *testing.T) {
	g := newGrafter(t, rand.New(rand.NewPCG(3, 1)))
	for range 2000 {
		s, e := g.stmt(3), g.expr(4)
		stmt, err := Stmt(s)
		expr, err2 := Expr(e)
		if err != api.OK || err2 != api.OK {
			t.Fatalf("Stmt, Expr: %d, %d", err, err2)
		}
		p := api.Program{Funcs: []api.Func{{Name: "main", Body: []api.Stmt{s, {Op: api.SEmit, Args: []api.Expr{e}}}}}}
		want := "fn main() {\n" + strings.ReplaceAll("\n"+stmt+"emit "+expr+";", "\n", "\n  ")[1:] + "\n}\n"
		if got, err := Text(p); got != want || err != api.OK {
			t.Errorf("Text: %d\n%s\nwant\n%s", err, got, want)
		}
	}
}

// TestP33Parentheses checks that expressions are read as they were printed, and not without any pair of parentheses.
func TestP33Parentheses(t *testing.T) {
	g := newGrafter(t, rand.New(rand.NewPCG(3, 2)))
	pairs := 0
	for range 4000 {
		e := g.expr(5)
		text, err := Expr(e)
		if err != api.OK {
			t.Fatalf("Expr(%v): %d", e, err)
		}
		if got := parsedExpr(t, text); !sameExpr(got, e) {
			t.Errorf("%s is read as %v", text, got)
		}
		tokens, _, _ := lexis.Tokens(text)
		for i, k := range tokens {
			if k.Kind != api.TSign || k.Text != "(" {
				continue
			}
			pairs++
			j := partner(tokens, i)
			joined, _ := lexis.Join(slices.Delete(slices.Delete(slices.Clone(tokens), j, j+1), i, i+1))
			if got, _, err := syntax.ParseExpr(joined); err == api.OK && sameExpr(got, e) {
				t.Errorf("%s has parentheses that %s has not", text, joined)
			}
		}
	}
	if pairs < 1000 {
		t.Errorf("only %d pairs of parentheses", pairs)
	}
}

// partner returns the position of the token that closes what one opens.
func partner(tokens []api.Token, at int) int {
	open := 0
	for i := at; ; i++ {
		if tokens[i].Kind != api.TSign {
			continue
		}
		switch tokens[i].Text {
		case "(":
			open++
		case ")":
			open--
		}
		if open == 0 {
			return i
		}
	}
}

// layouter writes the tokens of a program as the chapter says, without knowing what they mean.
type layouter struct {
	out     strings.Builder
	open    []bool // whether what is open is a select
	before  api.Token
	glued   bool // whether no blank stands behind the token before
	pending bool // whether a select was begun
}

func (l *layouter) is(marks string) bool {
	return (l.before.Kind == api.TSign || l.before.Kind == api.TWord) && slices.Contains(strings.Fields(marks), l.before.Text)
}

// operand reports whether the token before is the end of an operand.
func (l *layouter) operand() bool {
	return l.before.Kind <= api.TText || l.is(") true false")
}

func (l *layouter) add(k api.Token) {
	text := k.Text
	switch k.Kind {
	case api.TText:
		text, _ = lexis.Quote(text)
	case api.TSign, api.TWord:
		l.mark(k, text)
		return
	}
	l.put(text, true, false)
	l.before = k
}

// put writes a token, with a blank before it unless that is not wanted.
func (l *layouter) put(text string, blank, glue bool) {
	fresh := l.is("; { }") && !l.glued
	switch {
	case l.out.Len() == 0:
	case fresh:
		l.out.WriteString("\n" + strings.Repeat("  ", len(l.open)))
	case blank && !l.glued:
		l.out.WriteString(" ")
	}
	l.out.WriteString(text)
	l.glued = glue
}

func (l *layouter) mark(k api.Token, text string) {
	blank, glue := true, false
	inSelect := len(l.open) > 0 && l.open[len(l.open)-1]
	switch text {
	case ",", ";", ")":
		blank = false
	case "(":
		blank, glue = l.before.Kind != api.TName, true
	case "!":
		glue = true
	case "-":
		glue = !l.operand()
	case "}":
		l.open = l.open[:len(l.open)-1]
	case "else", "catch", "finally":
		if l.is("}") && !inSelect {
			l.out.WriteString(" ")
			l.glued = true
		}
	}
	l.put(text, blank, glue)
	switch text {
	case "{":
		l.open = append(l.open, l.pending)
		l.pending = false
	case "select":
		l.pending = true
	}
	l.before = k
}

func layout(t *testing.T, source string) string {
	t.Helper()
	tokens, _, err := lexis.Tokens(source)
	if err != api.OK {
		t.Fatalf("Tokens: %d", err)
	}
	l := &layouter{}
	for _, k := range tokens[:len(tokens)-1] {
		l.add(k)
	}
	return l.out.String() + "\n"
}

// TestP31Arguments checks that no argument is changed, and that the same arguments give the same results.
func TestP31Arguments(t *testing.T) {
	p, want := parsed(t, everything), parsed(t, everything)
	for range 2 {
		text, err := Text(p)
		if err != api.OK || layout(t, text) != text || !syntax.Same(p, want) {
			t.Errorf("Text: %d\n%s", err, text)
		}
		for _, f := range p.Funcs {
			for _, s := range f.Body {
				if _, err := Stmt(s); err != api.OK {
					t.Errorf("Stmt(%v): %d", s, err)
				}
			}
		}
		if !syntax.Same(p, want) {
			t.Error("Stmt changes its argument")
		}
	}
}
