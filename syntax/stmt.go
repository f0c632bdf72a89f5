package syntax

import "seedbed/api"

// reader reads the statements that begin with a word, from behind it, as a statement with the operator op.
type reader struct {
	op   int
	read func(op int) api.Stmt
}

func (p *parser) readers() map[string]reader {
	return map[string]reader{
		"let":      {api.SLet, p.let},
		"spawn":    {api.SSpawn, p.lineOfCall},
		"await":    {api.SAwait, p.lineOfOne},
		"receive":  {api.SReceive, p.lineOfOne},
		"send":     {api.SSend, p.lineOfTwo},
		"close":    {api.SClose, p.lineOfOne},
		"sleep":    {api.SSleep, p.lineOfOne},
		"yield":    {api.SYield, p.line},
		"emit":     {api.SEmit, p.lineOfOne},
		"throw":    {api.SThrow, p.lineOfOne},
		"cancel":   {api.SCancel, p.lineOfOne},
		"produce":  {api.SProduce, p.lineOfOne},
		"return":   {api.SReturn, p.giveBack},
		"break":    {api.SBreak, p.line},
		"continue": {api.SContinue, p.line},
		"if":       {api.SIf, p.branch},
		"while":    {api.SWhile, p.blockOfOne},
		"scope":    {api.SScope, p.scope},
		"shield":   {api.SShield, p.shield},
		"try":      {api.STry, p.attempt},
		"use":      {api.SUse, p.use},
		"hold":     {api.SHold, p.blockOfOne},
		"select":   {api.SSelect, p.choice},
		"each":     {api.SEach, p.flow},
	}
}

func (p *parser) block() []api.Stmt {
	var list []api.Stmt
	p.expect("{")
	for !p.accept("}") {
		list = append(list, p.statement())
	}
	return list
}

func (p *parser) statement() api.Stmt {
	t := p.peek()
	if t.Kind == api.TName {
		return p.named()
	}
	r := p.statements[t.Text]
	if t.Kind != api.TWord || r.read == nil {
		p.fail()
	}
	p.next++
	return r.read(r.op)
}

// named reads a statement that begins with a name.
func (p *parser) named() api.Stmt {
	if marks(p.tokens[p.next+1], "(") {
		return p.lineOfCall(api.SCall)
	}
	s := api.Stmt{Op: api.SSet, Name: p.name()}
	p.expect("=")
	s.Args = p.one()
	p.expect(";")
	return s
}

func (p *parser) one() []api.Expr { return []api.Expr{p.expression()} }

func (p *parser) two() []api.Expr {
	first := p.expression()
	p.expect(",")
	return []api.Expr{first, p.expression()}
}

// call reads a call as a statement with the operator op.
func (p *parser) call(op int) api.Stmt {
	s := api.Stmt{Op: op, Fn: p.name()}
	p.expect("(")
	if p.accept(")") {
		return s
	}
	for {
		s.Args = append(s.Args, p.expression())
		if p.accept(")") {
			return s
		}
		p.expect(",")
	}
}

// policy reads what a channel does when it is full, if that is said.
func (p *parser) policy() int {
	if !p.accept("drop") {
		return api.PWait
	}
	if p.accept("old") {
		return api.POldest
	}
	p.expect("new")
	return api.PNewest
}

func (p *parser) line(op int) api.Stmt {
	p.expect(";")
	return api.Stmt{Op: op}
}

func (p *parser) lineOfOne(op int) api.Stmt {
	s := api.Stmt{Op: op, Args: p.one()}
	p.expect(";")
	return s
}

func (p *parser) lineOfTwo(op int) api.Stmt {
	s := api.Stmt{Op: op, Args: p.two()}
	p.expect(";")
	return s
}

func (p *parser) lineOfCall(op int) api.Stmt {
	s := p.call(op)
	p.expect(";")
	return s
}

func (p *parser) giveBack(op int) api.Stmt {
	if p.accept(";") {
		return api.Stmt{Op: op}
	}
	return p.lineOfOne(op)
}

func (p *parser) let(op int) api.Stmt {
	name := p.name()
	p.expect("=")
	s := p.made(op)
	s.Name = name
	p.expect(";")
	return s
}

// made reads what a let makes its variable of: op is for an expression.
func (p *parser) made(op int) api.Stmt {
	switch {
	case p.peek().Kind == api.TName && marks(p.tokens[p.next+1], "("):
		return p.call(api.SCall)
	case p.accept("spawn"):
		return p.call(api.SSpawn)
	case p.accept("await"):
		return api.Stmt{Op: api.SAwait, Args: p.one()}
	case p.accept("receive"):
		return p.received()
	case p.accept("chan"):
		s := api.Stmt{Op: api.SChan, Args: p.one()}
		s.Flag = p.policy()
		return s
	case p.accept("lock"):
		return api.Stmt{Op: api.SLock, Args: p.one()}
	case p.accept("now"):
		return api.Stmt{Op: api.SNow}
	}
	return api.Stmt{Op: op, Args: p.one()}
}

func (p *parser) received() api.Stmt {
	s := api.Stmt{Op: api.SReceive, Args: p.one()}
	if p.accept("else") {
		p.expect("break")
		s.Flag = 1
	}
	return s
}
