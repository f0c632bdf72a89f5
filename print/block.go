package print

import (
	"strings"

	"seedbed/api"
	"seedbed/shape"
)

const indent = "  "

// printer writes what stands on several lines, each at a depth: it begins with so many indents.
type printer struct {
	speller
	words map[int]string
	add   func(depth int, line string)
	text  func() string
}

func newPrinter() *printer {
	w := &printer{speller: speller{operators()}, words: words()}
	w.add, w.text = collector()
	return w
}

// collector returns a function that adds a line, and one that returns all lines.
func collector() (add func(depth int, line string), text func() string) {
	var out strings.Builder
	add = func(depth int, line string) {
		out.WriteString(strings.Repeat(indent, depth) + line + "\n")
	}
	return add, func() string { return out.String() }
}

// each writes the elements of a list at a depth.
func each[T any](depth int, list []T, write func(depth int, x T)) {
	for _, x := range list {
		write(depth, x)
	}
}

// section is a block, with what stands before it.
type section struct {
	head string
	body []api.Stmt
}

// sections writes blocks one behind the other.
func (w *printer) sections(depth int, list ...section) {
	before := ""
	for _, s := range list {
		w.add(depth, spaced(before, s.head, "{"))
		each(depth+1, s.body, w.stmt)
		before = "}"
	}
	w.add(depth, before)
}

func (w *printer) function(depth int, f api.Func) {
	w.sections(depth, section{funcHead(f), f.Body})
}

func (w *printer) stmt(depth int, s api.Stmt) {
	switch s.Op {
	case api.SIf:
		w.sections(depth, w.branches(s)...)
	case api.STry:
		w.sections(depth, attempt(s)...)
	case api.SSelect:
		w.add(depth, "select {")
		each(depth+1, s.Cases, w.arm)
		w.add(depth, "}")
	case api.SWhile, api.SScope, api.SShield, api.SUse, api.SHold, api.SEach:
		w.sections(depth, section{w.head(s), s.Body})
	default:
		w.add(depth, w.line(s)+";")
	}
}

// branches returns the blocks of an if, with those of the if that its else is.
func (w *printer) branches(s api.Stmt) []section {
	list := []section{{w.head(s), s.Body}}
	if s.Flag == 0 {
		return list
	}
	if len(s.Other) != 1 || s.Other[0].Op != api.SIf {
		return append(list, section{"else", s.Other})
	}
	rest := w.branches(s.Other[0])
	rest[0].head = "else " + rest[0].head
	return append(list, rest...)
}

func attempt(s api.Stmt) []section {
	list := []section{{"try", s.Body}}
	if s.Flag&shape.HasCatch != 0 {
		list = append(list, section{"catch " + s.Name, s.Other})
	}
	if s.Flag&shape.HasFinally != 0 {
		list = append(list, section{"finally", s.Last})
	}
	return list
}

func (w *printer) arm(depth int, k api.Case) {
	w.sections(depth, section{w.caseHead(k), k.Body})
}
