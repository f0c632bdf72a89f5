package code

import (
	"strconv"
	"strings"

	"seedbed/api"
	"seedbed/instr"
	"seedbed/shape"
)

// reader reads the text of a code of any fields.
type reader struct {
	ops  map[string]int // the Ops of instructions by their names
	code api.Code
}

// wrong is the panic by which a reader ends at a line that is wrong.
type wrong struct{}

func need(holds bool) {
	if !holds {
		panic(wrong{})
	}
}

func newReader() *reader {
	r := &reader{ops: map[string]int{}}
	for op, f := range instr.Table() {
		r.ops[f.Name] = op
	}
	return r
}

// read reads all lines. ErrSyntax: the line is wrong.
func (r *reader) read(text string) (line int, err api.Errno) {
	defer func() {
		if recover() != nil {
			err = api.ErrSyntax
		}
	}()
	for text != "" {
		line++
		one, rest, ended := strings.Cut(text, "\n")
		need(ended)
		r.line(one)
		text = rest
	}
	return 0, api.OK
}

func (r *reader) line(line string) {
	inner, indented := strings.CutPrefix(line, indent)
	if !indented {
		r.head(strings.Split(line, blank))
		return
	}
	need(len(r.code.Funcs) > 0)
	f := &r.code.Funcs[len(r.code.Funcs)-1]
	if words := strings.Split(inner, blank); words[0] == guardWord {
		f.Guards = append(f.Guards, readGuard(words))
		return
	}
	need(len(f.Guards) == 0)
	// The text of the value, which is the last one, can contain blanks.
	f.Code = append(f.Code, r.instr(strings.SplitN(inner, blank, 6)))
}

// head reads the line with which a function begins.
func (r *reader) head(words []string) {
	need(len(words) == 4 && words[0] == fnWord && words[1] != "")
	n := numbers(words[2:])
	r.code.Funcs = append(r.code.Funcs, api.FnCode{Name: words[1], Params: n[0], Slots: n[1]})
}

func readGuard(words []string) api.Guard {
	need(len(words) == 5)
	n := numbers(words[1:])
	return api.Guard{From: n[0], To: n[1], At: n[2], Slot: n[3]}
}

func (r *reader) instr(words []string) api.Instr {
	need(len(words) == 6)
	op, ok := r.ops[words[0]]
	need(ok)
	n := numbers(words[1:4])
	in := api.Instr{Op: op, A: n[0], B: n[1], C: n[2]}
	if words[4] != noList {
		in.L = numbers(strings.Split(words[4], comma))
	}
	in.V, ok = shape.Read(words[5])
	need(ok)
	return in
}

// numbers reads decimal texts.
func numbers(words []string) []int {
	var list []int
	for _, word := range words {
		n, err := strconv.Atoi(word)
		need(err == nil && strconv.Itoa(n) == word)
		list = append(list, n)
	}
	return list
}
