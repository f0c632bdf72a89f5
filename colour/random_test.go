package colour

import (
	"math/rand/v2"
	"strconv"
	"strings"
	"testing"

	"seedbed/api"
	"seedbed/syntax"
)

// graph is a program of functions without parameters, of which one is main: each has statements of its own, and calls.
type graph struct {
	home  int
	flows []bool
	own   []string
	calls [][]call
}

// call is a call of a function; direct if it is neither a spawn nor an each.
type call struct {
	to     int
	direct bool
}

// ownStmts holds statements that need nothing, with their colours.
var ownStmts = map[string]int{"": 0, "let x = 1;": 0, "emit 1;": 1, "yield;": 3, "throw \"\";": 4, "let x = -1;": 4, "shield { }": 1, "let x = chan 1;": 5, "scope { }": 7, "use x = 1 { }": 1}

func randomGraph(r *rand.Rand) graph {
	n := 1 + r.IntN(api.MaxFuncs)
	g := graph{home: r.IntN(n), flows: make([]bool, n), own: make([]string, n), calls: make([][]call, n)}
	stmts := []string{"", "", "", "let x = 1;", "emit 1;", "yield;", "throw \"\";", "let x = -1;", "shield { }", "let x = chan 1;", "scope { }", "use x = 1 { }"}
	for i := range n {
		g.flows[i] = i != g.home && r.IntN(8) == 0
		g.own[i] = stmts[r.IntN(len(stmts))]
	}
	spawns := r.IntN(6)
	for range r.IntN(2*n + 1) {
		from, to := r.IntN(n), r.IntN(n)
		g.calls[from] = append(g.calls[from], call{to, !g.flows[to] && r.IntN(6) >= spawns})
	}
	return g
}

func (g graph) name(i int) string {
	if i == g.home {
		return "main"
	}
	return "f" + strconv.Itoa(i)
}

func (g graph) source(r *rand.Rand) string {
	out := ""
	for i, own := range g.own {
		head := "fn " + g.name(i) + "()"
		if g.flows[i] {
			head += " flow"
		}
		lines := []string{"if true { " + own + " }"}
		for _, c := range g.calls[i] {
			line := g.name(c.to) + "();"
			if g.flows[c.to] {
				line = "each x from " + g.name(c.to) + "() { }"
			} else if !c.direct {
				line = "spawn " + line
			}
			lines = append(lines, []string{line, "if false { " + line + " }", "while true { " + line + " break; }", "try { } finally { " + line + " }"}[r.IntN(4)])
		}
		r.Shuffle(len(lines), func(i, j int) { lines[i], lines[j] = lines[j], lines[i] })
		out += head + " { " + strings.Join(lines, " ") + " } "
	}
	return out
}

// reachedFrom returns what is reached from a function, by a search; direct calls alone, or all.
func (g graph) reachedFrom(from int, direct bool) []bool {
	seen := make([]bool, len(g.calls))
	var visit func(i int)
	visit = func(i int) {
		for _, c := range g.calls[i] {
			if (c.direct || !direct) && !seen[c.to] {
				seen[c.to] = true
				visit(c.to)
			}
		}
	}
	visit(from)
	return seen
}

// colour is what a function has by itself, and by all that it reaches by direct calls.
func (g graph) colour(from int) int {
	parts := g.reachedFrom(from, true)
	parts[from] = true
	sum := 0
	for i, in := range parts {
		if !in {
			continue
		}
		sum |= ownStmts[g.own[i]]
		if g.flows[i] {
			sum |= 1
		}
		for _, c := range g.calls[i] {
			switch {
			case g.flows[c.to]:
				sum |= 15
			case c.direct:
				sum |= 4
			default:
				sum |= 13
			}
		}
	}
	return sum
}

// longest is the length of the longest list of direct calls, -1 if one has no end.
func (g graph) longest(from int) int {
	if g.reachedFrom(from, true)[from] {
		return -1
	}
	most := 0
	for _, c := range g.calls[from] {
		if c.direct {
			n := g.longest(c.to)
			if n < 0 {
				return -1
			}
			most = max(most, n)
		}
	}
	return most + 1
}

func positions(in []bool) []int {
	var list []int
	for i, is := range in {
		if is {
			list = append(list, i)
		}
	}
	return list
}

// rings looks for each function at those that it reaches, and that reach it.
func (g graph) rings() [][]int {
	var out [][]int
	for i := range g.calls {
		var ring []int
		for j, in := range g.reachedFrom(i, true) {
			if in && g.reachedFrom(j, true)[i] {
				ring = append(ring, j)
			}
		}
		if len(ring) > 0 && ring[0] == i {
			out = append(out, ring)
		}
	}
	return out
}

// TestP62Random compares all functions with searches in random graphs.
func TestP62Random(t *testing.T) {
	r := rand.New(rand.NewPCG(6, 2))
	for range 500 {
		g := randomGraph(r)
		source := g.source(r)
		var colours, levels []int
		var calls, reached [][]int
		for i := range g.calls {
			colours = append(colours, g.colour(i))
			levels = append(levels, g.longest(i))
			in := make([]bool, len(g.calls))
			for _, c := range g.calls[i] {
				in[c.to] = true
			}
			calls = append(calls, positions(in))
			reached = append(reached, positions(g.reachedFrom(i, false)))
		}
		wantAll(t, source, colours, calls, reached, g.rings(), levels)
		wantMore(t, source, r.IntN(len(colours)), colours)
	}
}

// wantMore checks P6.3: which colours come together, and that another statement takes none away.
func wantMore(t *testing.T, source string, at int, colours []int) {
	t.Helper()
	for _, c := range colours {
		if c&2 != 0 && c&1 == 0 || c&8 != 0 && c&5 != 5 {
			t.Errorf("%s: colour %d", source, c)
		}
	}
	p := parsed(t, source)
	for more := range ownStmts {
		q, _ := syntax.Clone(p)
		extra := parsed(t, "fn main() { if true { "+more+" } }")
		q.Funcs[at].Body = append(q.Funcs[at].Body, extra.Funcs[0].Body...)
		got, err := Colours(q)
		for i, c := range colours {
			if err != api.OK || got[i]&c != c || i == at && got[i] != c|ownStmts[more] {
				t.Errorf("%s: Colours with %s in %d = %v, %d", source, more, at, got, err)
			}
		}
	}
}
