package lower

import "detent/api"

// statementsCode tells how each kind of statement becomes code.
func (c *coder) statementsCode() map[api.TwigKind]func(i int) {
	return map[api.TwigKind]func(i int){
		api.TwigVar:     c.local,
		api.TwigSet:     c.set,
		api.TwigCall:    c.act(api.OpCall),
		api.TwigCancel:  c.act(api.OpCancel),
		api.TwigJoin:    c.act(api.OpJoin),
		api.TwigLog:     c.act(api.OpLog),
		api.TwigPost:    c.post,
		api.TwigSpawn:   c.spawn,
		api.TwigEnable:  c.turn(api.OpEnable),
		api.TwigDisable: c.turn(api.OpDisable),
		api.TwigIf:      c.choose,
		api.TwigWhile:   c.repeat,
		api.TwigReturn:  c.end,
	}
}

func (c *coder) block(i int) {
	for _, k := range c.t.Twigs[i].Kids {
		if c.over {
			return
		}
		c.statements[c.t.Twigs[k].Kind](k)
	}
}

func (c *coder) local(i int) {
	val := c.kid(i, 1)
	register := val
	switch {
	case c.isCaptured(i):
		register = c.fresh(i, api.Instr{Op: api.OpCell, N: int64(c.types[i])})
		c.lay(i, api.Instr{Op: api.OpPut, A: register, B: val})
	case c.isPlain(c.t.Twigs[i].Kids[1]):
		// Two locals are never in one register: what is set to one of them must not change the other.
		register = c.fresh(i, api.Instr{Op: api.OpMove, B: val})
	}
	c.registers[i] = register
}

func (c *coder) set(i int) {
	setTo := c.variable(i, 0)
	setTo(c.kid(i, 1))
}

// variable lays the code of the parts of a variable, a statement's nth kid, and tells how it is set to what a register holds.
func (c *coder) variable(i, nth int) func(val int) {
	v := c.t.Twigs[i].Kids[nth]
	switch c.t.Twigs[v].Kind {
	case api.TwigDot:
		object, member := c.kid(v, 0), c.member(v)
		return func(val int) { c.lay(i, api.Instr{Op: api.OpSetField, A: object, B: val, N: member}) }
	case api.TwigIndex:
		array, index := c.kid(v, 0), c.kid(v, 1)
		return func(val int) { c.lay(i, api.Instr{Op: api.OpSetElem, A: array, B: index, C: val}) }
	}
	m := c.n.Means[v]
	switch {
	case m.Kind == api.MeanGlobal:
		return func(val int) { c.lay(i, api.Instr{Op: api.OpStore, A: val, N: int64(m.N)}) }
	case c.isCaptured(m.N):
		return func(val int) { c.lay(i, api.Instr{Op: api.OpPut, A: c.registers[m.N], B: val}) }
	}
	return func(val int) { c.lay(i, api.Instr{Op: api.OpMove, A: c.registers[m.N], B: val}) }
}

// act is of the statements that do one thing with a term.
func (c *coder) act(op api.Op) func(i int) {
	return func(i int) {
		val := c.kid(i, 0)
		c.lay(i, api.Instr{Op: op, A: val})
	}
}

func (c *coder) post(i int) {
	w := c.t.Twigs[i]
	x := api.Instr{Op: api.OpPost, B: c.kid(i, 0), C: c.n.Means[i].N, N: w.N}
	if w.N < 0 {
		x.Op, x.N = api.OpFront, 0
	}
	c.limit(int(x.N), api.MaxDelay)
	c.perhapsTo(i, c.fresh(i, x))
}

func (c *coder) spawn(i int) {
	val := c.kid(i, 0)
	c.perhapsTo(i, c.fresh(i, api.Instr{Op: api.OpSpawn, B: val}))
}

// perhapsTo sets the variable to which something goes, if it goes to one.
func (c *coder) perhapsTo(i, val int) {
	if len(c.t.Twigs[i].Kids) == 2 {
		setTo := c.variable(i, 1)
		setTo(val)
	}
}

func (c *coder) turn(op api.Op) func(i int) {
	return func(i int) {
		c.lay(i, api.Instr{Op: op, N: int64(c.n.Means[i].N)})
	}
}

func (c *coder) choose(i int) {
	kids := c.t.Twigs[i].Kids
	toOther := c.unless(i)
	c.block(kids[1])
	behindBoth := c.lay(i, api.Instr{Op: api.OpJump})
	c.goesHere(toOther)
	c.block(kids[2])
	c.goesHere(behindBoth)
}

func (c *coder) repeat(i int) {
	first := len(c.f.Code)
	behind := c.unless(i)
	c.block(c.t.Twigs[i].Kids[1])
	c.lay(i, api.Instr{Op: api.OpJump, N: int64(first)})
	c.goesHere(behind)
}

// unless lays a statement's term, and what goes on elsewhere if that is 0.
func (c *coder) unless(i int) int {
	val := c.kid(i, 0)
	return c.lay(i, api.Instr{Op: api.OpZero, A: val})
}

func (c *coder) end(i int) {
	c.lay(i, api.Instr{Op: api.OpRet})
}
