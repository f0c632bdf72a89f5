package compile

import "seedbed/api"

func (c *compiler) choice(s *api.Stmt) {
	var other, done label
	c.unless(s.Args[0], &other)
	c.block(s.Body)
	if len(s.Other) > 0 {
		c.jump(&done)
	}
	c.place(&other)
	c.block(s.Other)
	c.place(&done)
}

func (c *compiler) while(s *api.Stmt) {
	var again, done label
	c.place(&again)
	c.unless(s.Args[0], &done)
	c.within(&loop{byBreak: &done, byContinue: &again}, func() { c.block(s.Body) })
	c.jump(&again)
	c.place(&done)
}

func (c *compiler) scope(s *api.Stmt) {
	c.emit(api.Instr{Op: api.IAsk, A: noSlot, B: api.AOpen, C: s.Flag, L: c.operands(s.Args)})
	body := func() { c.list(s.Body) }
	leave := func() { c.ask(api.ALeave) }
	// The scope has the fault of the body then, and the reply says whether it ends with one.
	caught := func(pair int) { c.ask(api.ALeave, pair) }
	c.closing(s, body, leave, caught)
}

// between writes a statement whose body stands between two asks, both with the values of some slots.
func (c *compiler) between(s *api.Stmt, open, shut int, held ...int) {
	c.ask(open, held...)
	body := func() {
		if s.Name != "" {
			x := c.take()
			c.bind(s.Name, x)
			c.move(x, held[0])
		}
		c.list(s.Body)
	}
	end := func() { c.ask(shut, held...) }
	// The fault of the body goes on, also if the reply has another one.
	caught := func(pair int) {
		from := c.here()
		end()
		c.guard(from, c.here(), c.pair())
		c.raise(pair)
	}
	c.closing(s, body, end, caught)
}

// closing writes the body of a statement, and what is asked for when it is left: by end, or, after a raise, by caught.
func (c *compiler) closing(s *api.Stmt, body, end func(), caught func(pair int)) {
	var done label
	f := &closer{value: c.valueSlot(s.Body)}
	from := c.here()
	c.within(f, func() { c.within(block{}, body) })
	to := c.here()
	end()
	c.jump(&done)
	for way := range ways {
		c.place(&f.exits[way])
		end()
		c.leave(way, f.value)
	}
	pair := c.pair()
	if c.guard(from, to, pair) {
		caught(pair)
	}
	c.place(&done)
}

// catch writes a try with a catch.
func (c *compiler) catch(s *api.Stmt) {
	var done, again label
	from := c.here()
	c.block(s.Body)
	to := c.here()
	c.jump(&done)
	pair := c.pair()
	if c.guard(from, to, pair) {
		c.branch(api.IFault, pair, &again)
		c.within(block{s.Name: pair + 1}, func() { c.list(s.Other) })
		c.jump(&done)
		c.place(&again)
		c.raise(pair)
	}
	c.place(&done)
}

// finally writes a try with a finally. All its slots have values before its body, as what follows its last block could use each of them.
func (c *compiler) finally(s *api.Stmt) {
	f := &finally{pair: c.pair(), value: noSlot}
	c.constant(f.pair, number(api.FNone))
	c.constant(f.pair+1, text(""))
	if c.result && returns(s.Body) {
		f.value = c.take()
		c.constant(f.value, api.Value{})
	}
	from := c.here()
	c.within(f, func() { c.block(s.Body) })
	plain := !c.dead
	raised := c.guard(from, c.here(), f.pair)
	c.place(&f.last)
	c.block(s.Last)
	c.goOn(f, plain, raised)
}

// goOn writes what follows the last block of a try: what its body ended with.
func (c *compiler) goOn(f *finally, plain, raised bool) {
	var done, again label
	var exits [ways]label
	to := make([]*label, firstWay, firstWay+ways)
	if plain {
		to[api.FNone] = &done
	}
	if raised {
		to[api.FThrow], to[api.FCancel] = &again, &again
	}
	for way, left := range f.left {
		to = append(to, nil)
		if left {
			to[firstWay+way] = &exits[way]
		}
	}
	c.choose(f.pair, possible(to))
	c.place(&again)
	c.raise(f.pair)
	for way := range ways {
		c.place(&exits[way])
		c.leave(way, f.value)
	}
	c.place(&done)
}

// possible returns labels without those at the end that are none; in the place of others that are none stands one that is.
func possible(list []*label) []*label {
	var some *label
	most := 0
	for i, l := range list {
		if l != nil {
			some, most = l, i+1
		}
	}
	for i, l := range list {
		if l == nil {
			list[i] = some
		}
	}
	return list[:most]
}

func (c *compiler) selection(s *api.Stmt) {
	value := c.take()
	next := c.slots.next
	index := c.take()
	var arms []api.Instr
	other := 0
	for _, k := range s.Cases {
		if k.Op == api.CElse {
			other = 1
			break
		}
		arms = append(arms, api.Instr{Op: api.IArm, A: k.Op, L: c.operands(k.Args)})
	}
	for _, arm := range arms {
		c.emit(arm)
	}
	c.emit(api.Instr{Op: api.IAsk, A: value, B: api.ASelect, C: other, L: []int{index}})
	c.slots.next = next
	c.cases(s.Cases, index, value)
}

// cases writes what follows a select. The variable of a case has the slot of the value of the reply.
func (c *compiler) cases(list []api.Case, index, value int) {
	var done label
	to := make([]*label, len(list))
	for i := range to {
		to[i] = new(label)
	}
	c.choose(index, to)
	for i, k := range list {
		c.place(to[i])
		c.within(block{k.Name: value}, func() { c.list(k.Body) })
		if i < len(list)-1 {
			c.jump(&done)
		}
	}
	c.place(&done)
}
