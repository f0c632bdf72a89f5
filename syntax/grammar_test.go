package syntax

import (
	"math/rand/v2"
	"slices"
	"strconv"
	"strings"
	"testing"

	"seedbed/api"
	"seedbed/lexis"
)

// chapterGrammar is the grammar of the chapter; small is a numeral from 0 to 16.
const chapterGrammar = `
program = function { function }
function = "fn" N "(" [ parameter { "," parameter } ] ")" [ kind | "flow" ] block
parameter = N kind
kind = "int" | "bool" | "text" | "chan" | "task" | "lock"
block = "{" { statement } "}"
statement = "let" N "=" ( expression | call | "spawn" call | "await" expression | "receive" expression [ "else" "break" ] | "chan" expression [ policy ] | "lock" expression | "now" ) ";" | N "=" expression ";" | call ";" | "spawn" call ";" | "await" expression ";" | "receive" expression ";" | "send" expression "," expression ";" | "close" expression ";" | "sleep" expression ";" | "yield" ";" | "emit" expression ";" | "throw" expression ";" | "cancel" expression ";" | "produce" expression ";" | "return" [ expression ] ";" | "break" ";" | "continue" ";" | if-statement | "while" expression block | "scope" [ "supervised" ] [ "within" expression ] block | "shield" block | "try" block ( "catch" N block [ "finally" block ] | "finally" block ) | "use" N "=" expression block | "hold" expression block | "select" "{" ( case { case } [ last ] | last ) "}" | "each" N "from" call [ "buffer" small [ policy ] ] block
if-statement = "if" expression block [ "else" ( block | if-statement ) ]
call = N "(" [ expression { "," expression } ] ")"
policy = "drop" ( "old" | "new" )
case = "receive" N "from" expression block | "send" expression "," expression block | "after" expression block
last = "else" block
expression = and { "||" and }
and = equal { "&&" equal }
equal = order { ( "==" | "!=" ) order }
order = sum { ( "<" | "<=" | ">" | ">=" ) sum }
sum = product { ( "+" | "-" ) product }
product = unary { ( "*" | "/" | "%" ) unary }
unary = ( "!" | "-" ) unary | numeral | quote | "true" | "false" | N | "(" expression ")"
`

// grammar has the right sides of each symbol that is not one token.
type grammar struct {
	rules    map[string][][]string
	nullable map[string]bool
	words    []string // what is still to be read of the notation
}

func readGrammar(text string) *grammar {
	g := &grammar{rules: map[string][][]string{}, nullable: map[string]bool{}}
	for _, line := range strings.Split(strings.TrimSpace(text), "\n") {
		name, right, _ := strings.Cut(line, " = ")
		g.words = strings.Fields(right)
		g.choices(name)
	}
	for changed := true; changed; {
		changed = false
		for name, list := range g.rules {
			for _, right := range list {
				empty := !slices.ContainsFunc(right, func(s string) bool { return !g.nullable[s] })
				if empty && !g.nullable[name] {
					g.nullable[name], changed = true, true
				}
			}
		}
	}
	return g
}

// choices reads what stands between | up to the end or a bracket, as the right sides of a symbol.
func (g *grammar) choices(name string) {
	var right []string
	for len(g.words) > 0 {
		w := g.words[0]
		g.words = g.words[1:]
		switch w {
		case "|":
			g.rules[name] = append(g.rules[name], right)
			right = nil
		case "(", "[", "{":
			group := name + "." + w + strconv.Itoa(len(g.rules)) + "." + strconv.Itoa(len(g.words))
			g.choices(group)
			if w == "{" {
				for i := range g.rules[group] {
					g.rules[group][i] = append([]string{group}, g.rules[group][i]...)
				}
			}
			if w != "(" {
				g.rules[group] = append(g.rules[group], nil)
			}
			right = append(right, group)
		case ")", "]", "}":
			g.rules[name] = append(g.rules[name], right)
			return
		default:
			right = append(right, w)
		}
	}
	g.rules[name] = append(g.rules[name], right)
}

// item is a right side of which what stands before dot has been read, from the token from on.
type item struct {
	name            string
	side, dot, from int
}

// chart has the items after each of the tokens so far, of a reading of what start names (Earley's algorithm).
type chart struct {
	g      *grammar
	start  string
	states [][]item
}

func newChart(g *grammar, start string) *chart {
	c := &chart{g, start, [][]item{g.predict(start, 0)}}
	c.states[0] = g.close(c.states, 0)
	return c
}

// after returns the chart after one more token, nil if that cannot stand there.
func (c *chart) after(t api.Token) *chart {
	var next []item
	for _, it := range c.states[len(c.states)-1] {
		right := c.g.rules[it.name][it.side]
		if it.dot < len(right) && fits(right[it.dot], t) {
			next = append(next, item{it.name, it.side, it.dot + 1, it.from})
		}
	}
	if next == nil {
		return nil
	}
	d := &chart{c.g, c.start, append(slices.Clone(c.states), next)}
	d.states[len(c.states)] = c.g.close(d.states, len(c.states))
	return d
}

// whole reports whether the tokens can end here.
func (c *chart) whole() bool {
	return slices.ContainsFunc(c.states[len(c.states)-1], func(it item) bool {
		return it.name == c.start && it.from == 0 && it.dot == len(c.g.rules[it.name][it.side])
	})
}

// stop returns the position of the first token that cannot stand where it does, -1 if there is none.
func (c *chart) stop(tokens []api.Token) int {
	for _, t := range tokens {
		if t.Kind == api.TEnd && c.whole() {
			return -1
		}
		if t.Kind != api.TEnd {
			c = c.after(t)
		}
		if t.Kind == api.TEnd || c == nil {
			return t.At
		}
	}
	return -1
}

func (g *grammar) predict(name string, at int) []item {
	var list []item
	for side := range g.rules[name] {
		list = append(list, item{name, side, 0, at})
	}
	return list
}

// close adds what follows without another token.
func (g *grammar) close(states [][]item, at int) []item {
	var list []item
	seen := map[item]bool{}
	add := func(it item) {
		if !seen[it] {
			seen[it] = true
			list = append(list, it)
		}
	}
	for _, it := range states[at] {
		add(it)
	}
	for i := 0; i < len(list); i++ {
		it := list[i]
		right := g.rules[it.name][it.side]
		if it.dot == len(right) {
			from := list
			if it.from < at {
				from = states[it.from]
			}
			for _, up := range from {
				if r := g.rules[up.name][up.side]; up.dot < len(r) && r[up.dot] == it.name {
					add(item{up.name, up.side, up.dot + 1, up.from})
				}
			}
			continue
		}
		for _, p := range g.predict(right[it.dot], at) {
			add(p)
		}
		if g.nullable[right[it.dot]] {
			add(item{it.name, it.side, it.dot + 1, it.from})
		}
	}
	return list
}

// fits reports whether a symbol of the notation means a token.
func fits(symbol string, t api.Token) bool {
	switch symbol {
	case "N":
		return t.Kind == api.TName
	case "numeral":
		return t.Kind == api.TInt
	case "small":
		n, err := strconv.Atoi(t.Text)
		return t.Kind == api.TInt && err == nil && n <= 16
	case "quote":
		return t.Kind == api.TText
	}
	return (t.Kind == api.TWord || t.Kind == api.TSign) && symbol == `"`+t.Text+`"`
}

// someTokens has tokens of all kinds.
func someTokens() []api.Token {
	list, _, _ := lexis.Tokens(`( ) { } , ; = == != < <= > >= + - * / % ! && || 0 16 17 "let" "(" x y `)
	list = list[:len(list)-1]
	for _, w := range lexis.Words() {
		list = append(list, api.Token{Kind: api.TWord, Text: w})
	}
	return list
}

// spoil changes a few tokens.
func spoil(r *rand.Rand, list []api.Token) []api.Token {
	some := someTokens()
	list = slices.Clone(list)
	for range r.IntN(3) {
		at := r.IntN(len(list) + 1)
		switch r.IntN(4) {
		case 0:
			list = slices.Insert(list, at, some[r.IntN(len(some))])
		case 1:
			list = slices.Delete(list, max(at-1, 0), at)
		case 2:
			list = list[:at]
		default:
			if len(list) > 0 {
				list[at%len(list)] = some[r.IntN(len(some))]
			}
		}
	}
	return list
}

// TestP21Grammar compares Parse and ParseExpr with the grammar, for sources and spoiled ones.
func TestP21Grammar(t *testing.T) {
	g := readGrammar(chapterGrammar)
	r := rand.New(rand.NewPCG(2, 1))
	wrong, right := 0, 0
	for range 4000 {
		m := &maker{r: r, nodes: 25}
		start, source := "program", ""
		if r.IntN(4) == 0 {
			start, source = "expression", m.writeExpr(m.expr(4), 0)
		} else {
			source = m.write(m.program())
		}
		list, _, err := lexis.Tokens(source)
		if err != api.OK {
			t.Fatalf("%s: %d", source, err)
		}
		joined, err := lexis.Join(spoil(r, list[:len(list)-1]))
		if err != api.OK {
			continue
		}
		list, _, _ = lexis.Tokens(joined)
		stop := newChart(g, start).stop(list)
		var at int
		if start == "program" {
			_, at, err = Parse(joined)
		} else {
			_, at, err = ParseExpr(joined)
		}
		if stop >= 0 {
			wrong++
		} else {
			right++
		}
		if (err == api.ErrSyntax) != (stop >= 0) || err == api.ErrSyntax && at != stop || err != api.ErrSyntax && at != 0 {
			t.Errorf("%s: error %d at %d, want a stop at %d", joined, err, at, stop)
		}
	}
	if wrong < 1000 || right < 1000 {
		t.Errorf("%d wrong sources, %d right ones", wrong, right)
	}
}

// TestP21Beginnings puts each token behind each beginning of a program, and compares Parse with the grammar.
func TestP21Beginnings(t *testing.T) {
	list, _, err := lexis.Tokens(everything)
	if _, _, e := Parse(everything); err != api.OK || e != api.OK {
		t.Fatalf("everything: %d, %d", err, e)
	}
	c := newChart(readGrammar(chapterGrammar), "program")
	for i, next := range list[:len(list)-1] {
		for _, k := range someTokens() {
			joined, _ := lexis.Join(append(slices.Clone(list[:i]), k))
			again, _, _ := lexis.Tokens(joined)
			want := c.stop(again[i:])
			if _, at, err := Parse(joined); (err == api.ErrSyntax) != (want >= 0) || err == api.ErrSyntax && at != want {
				t.Errorf("%s: error %d at %d, want a stop at %d", joined, err, at, want)
			}
		}
		c = c.after(next)
	}
}

// everything is a program with each production of the grammar.
const everything = `fn main() { let a = f(1, 2); let b = spawn g(); let c = await b; let d = receive e else break; let e = chan 3 drop old; let h = lock 1; let i = now; let j = i;
	a = 1; g(); spawn g(); await b; receive e; send e, 2; close e; sleep 1; yield; emit "x"; throw "y"; cancel b; return; break; continue; }
fn f(x int, y bool) text { if x < 1 { } else if true { return "a"; } else { } while !y { } scope supervised within 5 { } scope { } shield { } }
fn g(x chan) flow { try { } catch k { } finally { } use r = 1 { } hold h { } select { receive v from x { } send x, 1 { } after 2 { } else { } } each v from g(x) buffer 3 drop new { produce v * (2 + -v) % 3 || false; } }
`
