package code

import (
	"strconv"
	"strings"

	"seedbed/api"
	"seedbed/instr"
	"seedbed/shape"
)

// How lines begin, and what stands for an empty list.
const (
	fnWord    = "fn"
	guardWord = "guard"
	indent    = "  "
	blank     = " "
	comma     = ","
	noList    = "-"
)

// write returns the text of a valid code.
func write(c api.Code) string {
	forms := instr.Table()
	var out strings.Builder
	line := func(begin string, words ...string) {
		out.WriteString(begin + strings.Join(words, blank) + "\n")
	}
	for _, f := range c.Funcs {
		line("", fnWord, f.Name, joined(blank, f.Params, f.Slots))
		for _, in := range f.Code {
			line(indent, forms[in.Op].Name, joined(blank, in.A, in.B, in.C), listText(in.L), shape.Show(in.V))
		}
		for _, g := range f.Guards {
			line(indent, guardWord, joined(blank, g.From, g.To, g.At, g.Slot))
		}
	}
	return out.String()
}

func listText(list []int) string {
	if len(list) == 0 {
		return noList
	}
	return joined(comma, list...)
}

// joined returns the texts of numbers with something between.
func joined(between string, numbers ...int) string {
	var words []string
	for _, n := range numbers {
		words = append(words, strconv.Itoa(n))
	}
	return strings.Join(words, between)
}
