package syntax

import (
	"seedbed/api"
	"seedbed/shape"
)

func (p *parser) blockOfOne(op int) api.Stmt {
	s := api.Stmt{Op: op, Args: p.one()}
	s.Body = p.block()
	return s
}

func (p *parser) branch(op int) api.Stmt {
	s := p.blockOfOne(op)
	if !p.accept("else") {
		return s
	}
	s.Flag = 1
	if p.accept("if") {
		s.Other = []api.Stmt{p.branch(op)}
	} else {
		s.Other = p.block()
	}
	return s
}

func (p *parser) scope(op int) api.Stmt {
	s := api.Stmt{Op: op}
	if p.accept("supervised") {
		s.Flag = 1
	}
	if p.accept("within") {
		s.Args = p.one()
	}
	s.Body = p.block()
	return s
}

func (p *parser) shield(op int) api.Stmt {
	return api.Stmt{Op: op, Body: p.block()}
}

func (p *parser) attempt(op int) api.Stmt {
	s := api.Stmt{Op: op, Body: p.block()}
	if p.accept("catch") {
		s.Flag |= shape.HasCatch
		s.Name = p.name()
		s.Other = p.block()
	}
	if p.accept("finally") {
		s.Flag |= shape.HasFinally
		s.Last = p.block()
	}
	if s.Flag == 0 {
		p.fail()
	}
	return s
}

func (p *parser) use(op int) api.Stmt {
	name := p.name()
	p.expect("=")
	s := p.blockOfOne(op)
	s.Name = name
	return s
}

func (p *parser) flow(op int) api.Stmt {
	name := p.name()
	p.expect("from")
	s := p.call(op)
	s.Name = name
	if p.accept("buffer") {
		size := p.numeral(shape.MaxBuffer)
		s.Flag = 4*size + p.policy()
	}
	s.Body = p.block()
	return s
}

func (p *parser) choice(op int) api.Stmt {
	s := api.Stmt{Op: op}
	p.expect("{")
	for done := false; !done; done = p.accept("}") {
		k := p.arm()
		s.Cases = append(s.Cases, k)
		if k.Op == api.CElse {
			p.expect("}")
			break
		}
	}
	return s
}

func (p *parser) arm() api.Case {
	k := api.Case{}
	switch {
	case p.accept("receive"):
		k.Op = api.CReceive
		k.Name = p.name()
		p.expect("from")
		k.Args = p.one()
	case p.accept("send"):
		k.Op = api.CSend
		k.Args = p.two()
	case p.accept("after"):
		k.Op = api.CAfter
		k.Args = p.one()
	case p.accept("else"):
		k.Op = api.CElse
	default:
		p.fail()
	}
	k.Body = p.block()
	return k
}
