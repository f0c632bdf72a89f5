package syntax

import "seedbed/api"

// operator is an operator of two operands: those of a higher level bind more tightly.
type operator struct {
	level, op int
}

func operators() map[string]operator {
	return map[string]operator{
		"||": {1, api.EOr},
		"&&": {2, api.EAnd},
		"==": {3, api.EEq}, "!=": {3, api.ENe},
		"<": {4, api.ELt}, "<=": {4, api.ELe}, ">": {4, api.EGt}, ">=": {4, api.EGe},
		"+": {5, api.EAdd}, "-": {5, api.ESub},
		"*": {6, api.EMul}, "/": {6, api.EDiv}, "%": {6, api.ERem},
	}
}

func (p *parser) expression() api.Expr { return p.level(1) }

// level reads an expression whose operators outside parentheses have at least a level.
func (p *parser) level(least int) api.Expr {
	left := p.unary()
	for {
		t := p.peek()
		o := p.operators[t.Text]
		if t.Kind != api.TSign || o.level < least {
			return left
		}
		p.next++
		right := p.level(o.level + 1)
		left = api.Expr{Op: o.op, Args: []api.Expr{left, right}}
	}
}

func (p *parser) unary() api.Expr {
	switch {
	case p.accept("!"):
		return api.Expr{Op: api.ENot, Args: []api.Expr{p.unary()}}
	case p.accept("-"):
		return api.Expr{Op: api.ENeg, Args: []api.Expr{p.unary()}}
	case p.accept("("):
		e := p.expression()
		p.expect(")")
		return e
	}
	return p.leaf()
}

func (p *parser) leaf() api.Expr {
	t := p.peek()
	if t.Kind == api.TInt {
		return api.Expr{Op: api.EInt, N: p.numeral(api.MaxInt)}
	}
	e := api.Expr{}
	switch {
	case t.Kind == api.TText:
		e = api.Expr{Op: api.EText, S: t.Text}
	case t.Kind == api.TName:
		e = api.Expr{Op: api.EName, S: t.Text}
	case marks(t, "true"):
		e = api.Expr{Op: api.EBool, N: 1}
	case marks(t, "false"):
		e = api.Expr{Op: api.EBool}
	default:
		p.fail()
	}
	p.next++
	return e
}
