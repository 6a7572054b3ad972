package parse

import (
	"slices"

	"detent/api"
)

func (p *parser) program() int {
	var declarations []int
	for p.at < len(p.tokens) {
		declarations = append(declarations, p.declaration())
	}
	return p.add(api.Token{Line: 1, Col: 1}, api.Twig{Kind: api.TwigProg}, declarations...)
}

func (p *parser) declaration() int {
	switch {
	case p.seesWord("looper"):
		return p.looper()
	case p.seesWord("class"):
		return p.class()
	case p.seesWord("var"):
		return p.global()
	case p.seesWord("fn"):
		return p.function()
	case p.seesWord("comp"):
		return p.component()
	case p.seesWord("event"):
		return p.event()
	}
	first := p.takeWord("main")
	return p.add(first, api.Twig{Kind: api.TwigMain}, p.block())
}

func (p *parser) looper() int {
	first, name := p.take(), p.takeName()
	p.takeMark(";")
	return p.add(first, api.Twig{Kind: api.TwigLooper, Text: name.Text})
}

func (p *parser) class() int {
	first, name := p.take(), p.takeName()
	p.takeMark("{")
	var members []int
	for !p.seesMark("}") {
		members = append(members, p.member())
	}
	p.takeMark("}")
	return p.add(first, api.Twig{Kind: api.TwigClass, Text: name.Text}, members...)
}

func (p *parser) member() int {
	name := p.takeName()
	typ := p.typeName()
	p.takeMark(";")
	return p.add(name, api.Twig{Kind: api.TwigMember, Text: name.Text}, typ)
}

func (p *parser) typeName() int {
	isType := p.next().Kind == api.TokenName || p.seesWord("int", "fn", "tok", "hand", "arr")
	t := p.takeIf(isType)
	return p.add(t, api.Twig{Kind: api.TwigType, Text: t.Text})
}

func (p *parser) global() int {
	first, name := p.take(), p.takeName()
	typ := p.typeName()
	p.takeMark(";")
	return p.add(first, api.Twig{Kind: api.TwigGlobal, Text: name.Text}, typ)
}

func (p *parser) function() int {
	first, name := p.take(), p.takeName()
	return p.add(first, api.Twig{Kind: api.TwigFunc, Text: name.Text}, p.block())
}

func (p *parser) component() int {
	first, name := p.take(), p.takeName()
	kids := []int{p.onLooper()}
	p.takeMark("{")
	for !p.seesMark("}") {
		kids = append(kids, p.life())
	}
	p.takeMark("}")
	return p.add(first, api.Twig{Kind: api.TwigComp, Text: name.Text}, kids...)
}

func (p *parser) onLooper() int {
	p.takeWord("on")
	return p.use()
}

func (p *parser) life() int {
	lives := []string{"create", "start", "stop", "destroy"}
	first := p.takeWord(lives...)
	n := slices.Index(lives, first.Text)
	return p.add(first, api.Twig{Kind: api.TwigLife, N: int64(n)}, p.block())
}

func (p *parser) event() int {
	first, name := p.take(), p.takeName()
	looper := p.onLooper()
	w := api.Twig{Kind: api.TwigEvent, Text: name.Text}
	if p.takeWord("on", "off").Text == "on" {
		w.N = 1
	}
	return p.add(first, w, looper, p.block())
}
