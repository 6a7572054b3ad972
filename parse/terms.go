package parse

import "detent/api"

func (p *parser) term() int {
	left := p.sum()
	if p.seesMark("<", "==") {
		return p.operation(left, p.sum)
	}
	return left
}

func (p *parser) sum() int {
	return p.chain(p.product, "+", "-")
}

func (p *parser) product() int {
	return p.chain(p.unary, "*")
}

// chain is of parts with signs between, from left to right.
func (p *parser) chain(part func() int, signs ...string) int {
	left := part()
	for p.seesMark(signs...) {
		left = p.operation(left, part)
	}
	return left
}

func (p *parser) operation(left int, part func() int) int {
	sign := p.take()
	right := part()
	return p.add(sign, api.Twig{Kind: api.TwigOp, Text: sign.Text}, left, right)
}

func (p *parser) unary() int {
	if !p.seesWord("arr", "len") {
		return p.tight()
	}
	first := p.enter()
	kid := p.unary()
	p.leave()
	w := api.Twig{Kind: api.TwigArr}
	if first.Text == "len" {
		w.Kind = api.TwigLen
	}
	return p.add(first, w, kid)
}

func (p *parser) tight() int {
	left := p.first()
	for {
		switch {
		case p.seesMark("."):
			point := p.take()
			left = p.add(point, api.Twig{Kind: api.TwigDot, Text: p.takeName().Text}, left)
		case p.seesMark("["):
			bracket := p.enter()
			inner := p.term()
			p.takeMark("]")
			p.leave()
			left = p.add(bracket, api.Twig{Kind: api.TwigIndex}, left, inner)
		default:
			return left
		}
	}
}

func (p *parser) first() int {
	switch {
	case p.next().Kind == api.TokenNumber:
		t := p.take()
		return p.add(t, api.Twig{Kind: api.TwigNumber, N: t.N})
	case p.seesWord("null"):
		return p.add(p.take(), api.Twig{Kind: api.TwigNull})
	case p.seesWord("it"):
		return p.add(p.take(), api.Twig{Kind: api.TwigIt})
	case p.seesWord("new"):
		first, name := p.take(), p.takeName()
		return p.add(first, api.Twig{Kind: api.TwigNew, Text: name.Text})
	case p.seesWord("fn"):
		first := p.take()
		return p.add(first, api.Twig{Kind: api.TwigFn}, p.block())
	case p.seesMark("("):
		p.enter()
		inner := p.term()
		p.takeMark(")")
		p.leave()
		return inner
	}
	return p.use()
}

func (p *parser) use() int {
	name := p.takeName()
	return p.add(name, api.Twig{Kind: api.TwigUse, Text: name.Text})
}

// variable refuses what stands behind another Tight, not that one itself: a point or a bracket might have made it one.
func (p *parser) variable() int {
	tight := p.tight()
	switch p.twigs[tight].Kind {
	case api.TwigUse, api.TwigDot, api.TwigIndex:
	default:
		p.refuse(api.ErrSyntax)
	}
	return tight
}
