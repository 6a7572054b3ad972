package parse

import (
	"slices"

	"detent/api"
)

// parser goes over tokens. It adds a twig when the twig's last token is passed, so each one stands behind its kids: lay mends that.
type parser struct {
	tokens []api.Token
	at     int
	nest   int
	twigs  []api.Twig
}

// next tells the token that is next; of the End one of no kind, at 0, 0, where the End is told.
func (p *parser) next() api.Token {
	if p.at < len(p.tokens) {
		return p.tokens[p.at]
	}
	return api.Token{}
}

// refuse ends it all: the next token can't stand there.
func (p *parser) refuse(err api.Errno) {
	t := p.next()
	panic(api.Diag{Line: t.Line, Col: t.Col, Err: err})
}

func (p *parser) sees(kind api.TokenKind, texts ...string) bool {
	t := p.next()
	return t.Kind == kind && slices.Contains(texts, t.Text)
}

func (p *parser) seesWord(texts ...string) bool {
	return p.sees(api.TokenWord, texts...)
}

func (p *parser) seesMark(texts ...string) bool {
	return p.sees(api.TokenMark, texts...)
}

// take passes the next token, which may stand there.
func (p *parser) take() api.Token {
	t := p.next()
	p.at++
	return t
}

func (p *parser) takeIf(mayStand bool) api.Token {
	if !mayStand {
		p.refuse(api.ErrSyntax)
	}
	return p.take()
}

func (p *parser) takeWord(texts ...string) api.Token {
	return p.takeIf(p.seesWord(texts...))
}

func (p *parser) takeMark(texts ...string) api.Token {
	return p.takeIf(p.seesMark(texts...))
}

func (p *parser) takeName() api.Token {
	return p.takeIf(p.next().Kind == api.TokenName)
}

func (p *parser) takeNumber() api.Token {
	return p.takeIf(p.next().Kind == api.TokenNumber)
}

// enter passes the next token, which may stand there, and from which on all is one nest deeper, until leave.
func (p *parser) enter() api.Token {
	if p.nest == api.MaxDepth {
		p.refuse(api.ErrDepth)
	}
	p.nest++
	return p.take()
}

func (p *parser) leave() {
	p.nest--
}

// add adds a twig, at the place of a token, and tells its number.
func (p *parser) add(place api.Token, w api.Twig, kids ...int) int {
	w.Line, w.Col, w.Kids = place.Line, place.Col, kids
	p.twigs = append(p.twigs, w)
	return len(p.twigs) - 1
}
