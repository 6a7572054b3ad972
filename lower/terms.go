package lower

import (
	"detent/api"
	"detent/types"
)

// termsCode tells how each kind of term becomes code, and in which register its value is then.
func (c *coder) termsCode() map[api.TwigKind]func(i int) int {
	return map[api.TwigKind]func(i int) int{
		api.TwigNumber: c.number,
		api.TwigNull:   c.number,
		api.TwigIt:     c.it,
		api.TwigUse:    c.use,
		api.TwigDot:    c.dot,
		api.TwigIndex:  c.index,
		api.TwigOp:     c.operation,
		api.TwigNew:    c.object,
		api.TwigArr:    c.array,
		api.TwigLen:    c.length,
		api.TwigFn:     c.closure,
	}
}

// value lays a term's code, and tells its value's register.
func (c *coder) value(i int) int {
	c.depth++
	defer func() { c.depth-- }()
	// Each level of a term has a register that no other one has: where there are too many, there is no need for calls that deep.
	c.limit(c.depth, api.MaxRegs)
	if c.over {
		return 0
	}
	return c.terms[c.t.Twigs[i].Kind](i)
}

// kid lays the code of a twig's nth kid, which is a term, and tells its value's register.
func (c *coder) kid(i, nth int) int {
	return c.value(c.t.Twigs[i].Kids[nth])
}

// isPlain tells whether a term is a local that nobody captures.
func (c *coder) isPlain(i int) bool {
	m := c.n.Means[i]
	return m.Kind == api.MeanLocal && !c.isCaptured(m.N)
}

// fresh lays an instruction whose A is a register that is taken for it, and tells that one.
func (c *coder) fresh(i int, x api.Instr) int {
	x.A = c.take()
	c.lay(i, x)
	return x.A
}

// number is of a null, too: its N is 0.
func (c *coder) number(i int) int {
	return c.fresh(i, api.Instr{Op: api.OpConst, N: c.t.Twigs[i].N})
}

func (c *coder) it(i int) int {
	return c.fresh(i, api.Instr{Op: api.OpIt})
}

func (c *coder) use(i int) int {
	m := c.n.Means[i]
	switch {
	case m.Kind == api.MeanGlobal:
		return c.fresh(i, api.Instr{Op: api.OpLoad, N: int64(m.N)})
	case m.Kind == api.MeanFunc:
		return c.fresh(i, api.Instr{Op: api.OpClosure, N: int64(m.N)})
	case c.isCaptured(m.N):
		return c.fresh(i, api.Instr{Op: api.OpGet, B: c.registers[m.N]})
	}
	return c.registers[m.N]
}

func (c *coder) dot(i int) int {
	object := c.kid(i, 0)
	return c.fresh(i, api.Instr{Op: api.OpField, B: object, N: c.member(i)})
}

// member tells the number of the member that a point asks for.
func (c *coder) member(dot int) int64 {
	w := c.t.Twigs[dot]
	nth, _ := types.Member(c.t, c.n, c.types[w.Kids[0]], w.Text)
	return int64(nth)
}

func (c *coder) index(i int) int {
	return c.both(i, api.OpElem)
}

func (c *coder) operation(i int) int {
	switch c.t.Twigs[i].Text {
	case "+":
		return c.both(i, api.OpAdd)
	case "-":
		return c.both(i, api.OpSub)
	case "*":
		return c.both(i, api.OpMul)
	case "<":
		return c.both(i, api.OpLess)
	}
	return c.both(i, api.OpSame)
}

func (c *coder) both(i int, op api.Op) int {
	left := c.kid(i, 0)
	right := c.kid(i, 1)
	return c.fresh(i, api.Instr{Op: op, B: left, C: right})
}

func (c *coder) object(i int) int {
	return c.fresh(i, api.Instr{Op: api.OpNew, N: int64(c.n.Means[i].N)})
}

func (c *coder) array(i int) int {
	size := c.kid(i, 0)
	return c.fresh(i, api.Instr{Op: api.OpArray, B: size})
}

func (c *coder) length(i int) int {
	array := c.kid(i, 0)
	return c.fresh(i, api.Instr{Op: api.OpLen, B: array})
}

func (c *coder) closure(i int) int {
	f := c.numbers[i]
	var cells []int
	for _, local := range c.n.Funcs[f].Captures {
		cells = append(cells, c.registers[local])
	}
	return c.fresh(i, api.Instr{Op: api.OpClosure, N: int64(f), L: cells})
}
