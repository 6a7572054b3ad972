package lower

import "detent/api"

// coder makes the code of one function.
type coder struct {
	*maker
	f          *api.Func
	lay        func(i int, x api.Instr) int
	terms      map[api.TwigKind]func(i int) int
	statements map[api.TwigKind]func(i int)
	registers  map[int]int // of each local its own, or its cell's
	depth      int         // how many terms are around
}

func newCoder(m *maker, f int) *coder {
	c := &coder{maker: m, f: &m.prog.Funcs[f], lay: m.layer(f), registers: map[int]int{}}
	c.terms = c.termsCode()
	c.statements = c.statementsCode()
	return c
}

// layer tells how a function's code goes on: by a closure that lays a twig's instruction, and tells its place.
func (m *maker) layer(f int) func(i int, x api.Instr) int {
	code := &m.prog.Funcs[f].Code
	return func(i int, x api.Instr) int {
		at := len(*code)
		x.Line = m.t.Twigs[i].Line
		x.Site = -1
		if IsSite(x.Op) {
			x.Site = len(m.prog.Sites)
			m.prog.Sites = append(m.prog.Sites, api.Site{Func: f, At: at})
		}
		*code = append(*code, x)
		m.limit(len(*code), api.MaxCode)
		m.limit(len(m.prog.Sites), api.MaxSites)
		return at
	}
}

func (c *coder) function(f api.NamedFunc) {
	for _, local := range f.Captures {
		c.registers[local] = c.take()
	}
	kids := c.t.Twigs[f.Twig].Kids
	c.block(kids[len(kids)-1])
	c.lay(f.Twig, api.Instr{Op: api.OpRet})
}

// take takes the next register.
func (c *coder) take() int {
	c.f.Regs++
	c.limit(c.f.Regs, api.MaxRegs)
	return c.f.Regs - 1
}

// goesHere has an instruction that goes on elsewhere do so at what is laid next.
func (c *coder) goesHere(at int) {
	c.f.Code[at].N = int64(len(c.f.Code))
}

func (c *coder) isCaptured(local int) bool {
	_, is := c.captured[local]
	return is
}
