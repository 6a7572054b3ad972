package types

import (
	"slices"

	"detent/api"
	"detent/tree"
)

// checker goes over a tree that may be. Types, and which terms have none, are what it has found so far.
type checker struct {
	t       api.Tree
	n       api.Names
	must    map[api.TwigKind][]api.Type
	members map[member]api.Type
	types   []api.Type
	untyped []bool
	wrong   []api.Diag
}

// member is a class, and the name of one of its members.
type member struct {
	class api.Type
	name  string
}

func newChecker(t api.Tree, n api.Names) *checker {
	return &checker{
		t:       t,
		n:       n,
		must:    kidsMust(),
		members: memberTypes(t, n),
		types:   make([]api.Type, len(t.Twigs)),
		untyped: make([]bool, len(t.Twigs)),
	}
}

// kidsMust tells what the first kids of a kind must be, where that is the same of each twig of the kind (but for ==).
func kidsMust() map[api.TwigKind][]api.Type {
	return map[api.TwigKind][]api.Type{
		api.TwigCall:   {api.TypeFn},
		api.TwigCancel: {api.TypeToken},
		api.TwigJoin:   {api.TypeHand},
		api.TwigLog:    {api.TypeInt},
		api.TwigPost:   {api.TypeFn, api.TypeToken},
		api.TwigSpawn:  {api.TypeFn, api.TypeHand},
		api.TwigIf:     {api.TypeInt},
		api.TwigWhile:  {api.TypeInt},
		api.TwigIndex:  {api.TypeArray, api.TypeInt},
		api.TwigOp:     {api.TypeInt, api.TypeInt},
		api.TwigArr:    {api.TypeInt},
		api.TwigLen:    {api.TypeArray},
	}
}

// memberTypes tells the types of all members at once: a class may have many, and many points may ask for them.
func memberTypes(t api.Tree, n api.Names) map[member]api.Type {
	l := map[member]api.Type{}
	for number, c := range n.Classes {
		for _, i := range at(t.Twigs, c).Kids {
			l[member{classNumbered(number), t.Twigs[i].Text}] = Of(t, n, i)
		}
	}
	return l
}

// goOver goes from the last twig to the first one: what a twig's kids are is known when it comes to it, without deep calls.
func (c *checker) goOver() {
	for i, w := range slices.Backward(c.t.Twigs) {
		right := c.isRight(w)
		if !right {
			c.wrong = append(c.wrong, api.Diag{Line: w.Line, Col: w.Col, Err: api.ErrType})
		}
		if tree.Term(w.Kind) && (!right || slices.ContainsFunc(w.Kids, c.isUntyped)) {
			c.untyped[i] = true
			continue
		}
		c.types[i] = c.typeOf(i)
	}
	slices.Reverse(c.wrong)
}

// isRight tells whether a twig is as it must be, so far as its kids have types.
func (c *checker) isRight(w api.Twig) bool {
	switch w.Kind {
	case api.TwigVar:
		return c.fits(w.Kids[1], w.Kids[0])
	case api.TwigSet:
		// A function's name is no token and no handle: of what goes to a variable this need not be asked.
		return !c.isFunction(w.Kids[0]) && c.fits(w.Kids[1], w.Kids[0])
	case api.TwigDot:
		_, is := c.members[c.asked(w)]
		return is || c.isUntyped(w.Kids[0])
	case api.TwigOp:
		if w.Text == "==" {
			return c.fits(w.Kids[0], w.Kids[1]) || c.fits(w.Kids[1], w.Kids[0])
		}
	}
	return c.areAsMust(w)
}

func (c *checker) areAsMust(w api.Twig) bool {
	for nth, must := range c.must[w.Kind] {
		if nth < len(w.Kids) && c.types[w.Kids[nth]] != must && !c.isUntyped(w.Kids[nth]) {
			return false
		}
	}
	return true
}

// fits tells whether a twig's type fits another one's; what has none is not asked.
func (c *checker) fits(a, b int) bool {
	return c.isUntyped(a) || c.isUntyped(b) || Fits(c.types[a], c.types[b])
}

// asked tells the member for which a point asks.
func (c *checker) asked(dot api.Twig) member {
	return member{c.types[dot.Kids[0]], dot.Text}
}

func (c *checker) isFunction(i int) bool {
	return at(c.n.Means, i).Kind == api.MeanFunc
}

// isUntyped tells whether a twig is a term without a type.
func (c *checker) isUntyped(i int) bool {
	return c.untyped[i]
}

// typeOf tells the type of a twig, but of a term that has none.
func (c *checker) typeOf(i int) api.Type {
	w := c.t.Twigs[i]
	switch w.Kind {
	case api.TwigNumber, api.TwigIt, api.TwigIndex, api.TwigOp, api.TwigLen:
		return api.TypeInt
	case api.TwigUse:
		return c.used(at(c.n.Means, i))
	case api.TwigDot:
		return c.members[c.asked(w)]
	case api.TwigNew:
		return classOf(at(c.n.Means, i))
	case api.TwigArr:
		return api.TypeArray
	case api.TwigFn:
		return api.TypeFn
	}
	return Of(c.t, c.n, i)
}

// used tells the type of what a TwigUse means (of a looper none).
func (c *checker) used(m api.Mean) api.Type {
	switch m.Kind {
	case api.MeanLocal:
		return Of(c.t, c.n, m.N)
	case api.MeanGlobal:
		return Of(c.t, c.n, at(c.n.Globals, m.N))
	case api.MeanFunc:
		return api.TypeFn
	}
	return 0
}
