package print

import (
	"strconv"
	"strings"

	"seedbed/api"
)

// kindWords holds the word of each kind that can be written.
var kindWords = [api.KLock + 1]string{"", "int", "bool", "text", "chan", "task", "lock"}

// policyWords holds what is written of each policy.
var policyWords = [api.PNewest + 1]string{"", "drop old", "drop new"}

// words holds the word with which each statement begins, behind its variable; the others begin with none.
func words() map[int]string {
	return map[int]string{
		api.SSpawn: "spawn", api.SAwait: "await", api.SReceive: "receive", api.SChan: "chan", api.SLock: "lock", api.SNow: "now",
		api.SSend: "send", api.SClose: "close", api.SSleep: "sleep", api.SYield: "yield", api.SEmit: "emit", api.SThrow: "throw",
		api.SCancel: "cancel", api.SProduce: "produce", api.SReturn: "return", api.SBreak: "break", api.SContinue: "continue",
		api.SIf: "if", api.SWhile: "while", api.SScope: "scope", api.SShield: "shield", api.SUse: "use", api.SHold: "hold", api.SEach: "each",
	}
}

// spaced joins the parts that are not empty, with one blank between each two.
func spaced(parts ...string) string {
	out := ""
	for _, part := range parts {
		if out != "" && part != "" {
			out += " "
		}
		out += part
	}
	return out
}

// line writes a statement without blocks, but for its last sign.
func (w *printer) line(s api.Stmt) string {
	said := spaced(w.words[s.Op], w.said(s))
	switch {
	case s.Name == "":
		return said
	case s.Op == api.SSet:
		return s.Name + " = " + said
	}
	return "let " + s.Name + " = " + said
}

// said writes what a statement without blocks has behind its word.
func (w *printer) said(s api.Stmt) string {
	args := w.exprs(s.Args)
	switch {
	case s.Op == api.SCall || s.Op == api.SSpawn:
		return call(s.Fn, args)
	case s.Op == api.SChan:
		return spaced(args, policyWords[s.Flag])
	case s.Op == api.SReceive && s.Flag == 1:
		return args + " else break"
	}
	return args
}

func call(fn, args string) string { return fn + "(" + args + ")" }

// head writes what a statement has before its first block, or before its cases.
func (w *printer) head(s api.Stmt) string {
	word, args := w.words[s.Op], w.exprs(s.Args)
	switch s.Op {
	case api.SScope:
		if s.Flag == 1 {
			word += " supervised"
		}
		if args != "" {
			word += " within"
		}
	case api.SUse:
		word += " " + s.Name + " ="
	case api.SEach:
		return spaced(word, s.Name, "from", call(s.Fn, args), buffer(s.Flag))
	}
	return spaced(word, args)
}

// buffer writes the buffer of an each; without one the flag is 0.
func buffer(flag int) string {
	if flag == 0 {
		return ""
	}
	return spaced("buffer", strconv.Itoa(flag/4), policyWords[flag%4])
}

func (w *printer) caseHead(k api.Case) string {
	args := w.exprs(k.Args)
	switch k.Op {
	case api.CReceive:
		return "receive " + k.Name + " from " + args
	case api.CSend:
		return "send " + args
	case api.CAfter:
		return "after " + args
	}
	return "else"
}

func funcHead(f api.Func) string {
	var params []string
	for _, q := range f.Params {
		params = append(params, q.Name+" "+kindWords[q.Kind])
	}
	head := "fn " + call(f.Name, strings.Join(params, ", "))
	if f.Flow {
		return head + " flow"
	}
	return spaced(head, kindWords[f.Result])
}
