package syntax

import (
	"strconv"

	"seedbed/api"
	"seedbed/lexis"
)

// parser reads what the grammar names, each by a method of its own.
type parser struct {
	tokens     []api.Token
	next       int
	statements map[string]reader
	operators  map[string]operator
}

// failure is the panic by which a parser ends at a token that cannot stand where it does.
type failure struct {
	at int
}

// read reads a source that is as a whole what rule reads; if there is an error, it returns its position.
func read[T any](source string, rule func(*parser) T) (result T, at int, err api.Errno) {
	var none T
	tokens, at, err := lexis.Tokens(source)
	if err != api.OK {
		return none, at, err
	}
	defer func() {
		if r := recover(); r != nil {
			f, _ := r.(failure)
			result, at, err = none, f.at, api.ErrSyntax
		}
	}()
	p := newParser(tokens)
	result = rule(p)
	p.end()
	return result, 0, api.OK
}

func newParser(tokens []api.Token) *parser {
	p := &parser{tokens: tokens, operators: operators()}
	p.statements = p.readers()
	return p
}

func (p *parser) peek() api.Token { return p.tokens[p.next] }

func (p *parser) fail() { panic(failure{p.peek().At}) }

// marks reports whether a token is a sign or a word.
func marks(t api.Token, mark string) bool {
	return (t.Kind == api.TSign || t.Kind == api.TWord) && t.Text == mark
}

func (p *parser) sees(mark string) bool { return marks(p.peek(), mark) }

func (p *parser) accept(mark string) bool {
	if !p.sees(mark) {
		return false
	}
	p.next++
	return true
}

func (p *parser) expect(mark string) {
	if !p.accept(mark) {
		p.fail()
	}
}

func (p *parser) end() {
	if p.peek().Kind != api.TEnd {
		p.fail()
	}
}

func (p *parser) name() string {
	t := p.peek()
	if t.Kind != api.TName {
		p.fail()
	}
	p.next++
	return t.Text
}

// numeral reads a numeral of a number that is at most most.
func (p *parser) numeral(most int) int {
	t := p.peek()
	n, err := strconv.Atoi(t.Text)
	if t.Kind != api.TInt || err != nil || n > most {
		p.fail()
	}
	p.next++
	return n
}

func (p *parser) program() api.Program {
	list := []api.Func{p.function()}
	for p.sees("fn") {
		list = append(list, p.function())
	}
	return api.Program{Funcs: list}
}

func (p *parser) function() api.Func {
	p.expect("fn")
	f := api.Func{Name: p.name()}
	p.expect("(")
	if !p.accept(")") {
		f.Params = p.parameters()
	}
	if p.accept("flow") {
		f.Flow = true
	} else if !p.sees("{") {
		f.Result = p.kind()
	}
	f.Body = p.block()
	return f
}

// parameters reads at least one parameter, and the parenthesis behind them.
func (p *parser) parameters() []api.Param {
	var list []api.Param
	for {
		name := p.name()
		list = append(list, api.Param{Name: name, Kind: p.kind()})
		if p.accept(")") {
			return list
		}
		p.expect(",")
	}
}

func (p *parser) kind() int {
	t := p.peek()
	if t.Kind != api.TWord {
		p.fail()
	}
	kind := kindOf(t.Text)
	if kind == api.KUnit {
		p.fail()
	}
	p.next++
	return kind
}

// kindOf is the kind that a word names, KUnit if it names none.
func kindOf(word string) int {
	switch word {
	case "int":
		return api.KInt
	case "bool":
		return api.KBool
	case "text":
		return api.KText
	case "chan":
		return api.KChan
	case "task":
		return api.KTask
	case "lock":
		return api.KLock
	}
	return api.KUnit
}
