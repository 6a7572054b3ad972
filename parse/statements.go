package parse

import "detent/api"

func (p *parser) block() int {
	if !p.seesMark("{") {
		p.refuse(api.ErrSyntax)
	}
	first := p.enter()
	var statements []int
	for !p.seesMark("}") {
		statements = append(statements, p.statement())
	}
	p.takeMark("}")
	p.leave()
	return p.add(first, api.Twig{Kind: api.TwigBlock}, statements...)
}

func (p *parser) statement() int {
	switch {
	case p.seesWord("var"):
		return p.local()
	case p.seesWord("call", "cancel", "join", "log"):
		return p.act()
	case p.seesWord("post"):
		return p.post()
	case p.seesWord("spawn"):
		return p.spawn()
	case p.seesWord("enable", "disable"):
		return p.turn()
	case p.seesWord("if"):
		return p.choose()
	case p.seesWord("while"):
		return p.repeat()
	case p.seesWord("return"):
		first := p.take()
		p.takeMark(";")
		return p.add(first, api.Twig{Kind: api.TwigReturn})
	}
	return p.set()
}

func (p *parser) local() int {
	first, name := p.take(), p.takeName()
	typ := p.typeName()
	p.takeMark("=")
	term := p.term()
	p.takeMark(";")
	return p.add(first, api.Twig{Kind: api.TwigVar, Text: name.Text}, typ, term)
}

// act is of the statements that are a word and a term.
func (p *parser) act() int {
	first := p.take()
	term := p.term()
	p.takeMark(";")
	w := api.Twig{Kind: api.TwigCall}
	switch first.Text {
	case "cancel":
		w.Kind = api.TwigCancel
	case "join":
		w.Kind = api.TwigJoin
	case "log":
		w.Kind = api.TwigLog
	}
	return p.add(first, w, term)
}

func (p *parser) post() int {
	first, name := p.take(), p.takeName()
	term := p.term()
	w := api.Twig{Kind: api.TwigPost, Text: name.Text}
	switch {
	case p.seesWord("after"):
		p.take()
		w.N = p.takeNumber().N
	case p.seesWord("front"):
		p.take()
		w.N = -1
	}
	return p.add(first, w, p.perhapsTo(term)...)
}

func (p *parser) spawn() int {
	first := p.take()
	term := p.term()
	return p.add(first, api.Twig{Kind: api.TwigSpawn}, p.perhapsTo(term)...)
}

// perhapsTo ends a statement, and tells its kids: its term, and to what variable it goes, if it goes to one.
func (p *parser) perhapsTo(term int) []int {
	kids := []int{term}
	if p.seesWord("to") {
		p.take()
		kids = append(kids, p.variable())
	}
	p.takeMark(";")
	return kids
}

func (p *parser) turn() int {
	first, name := p.take(), p.takeName()
	p.takeMark(";")
	w := api.Twig{Kind: api.TwigEnable, Text: name.Text}
	if first.Text == "disable" {
		w.Kind = api.TwigDisable
	}
	return p.add(first, w)
}

func (p *parser) choose() int {
	first := p.take()
	kids := []int{p.term(), p.block()}
	if p.seesWord("else") {
		p.take()
		kids = append(kids, p.block())
	} else {
		kids = append(kids, p.add(first, api.Twig{Kind: api.TwigBlock}))
	}
	return p.add(first, api.Twig{Kind: api.TwigIf}, kids...)
}

func (p *parser) repeat() int {
	first := p.take()
	term := p.term()
	return p.add(first, api.Twig{Kind: api.TwigWhile}, term, p.block())
}

func (p *parser) set() int {
	first := p.next()
	variable := p.variable()
	p.takeMark("=")
	term := p.term()
	p.takeMark(";")
	return p.add(first, api.Twig{Kind: api.TwigSet}, variable, term)
}
