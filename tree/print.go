package tree

import (
	"slices"
	"strconv"
	"strings"

	"detent/api"
)

// partKind is what a part of a twig's print is.
type partKind int

const (
	partToken partKind = 1 + iota // text
	partKid                       // which: a number among its twig's kids, or a twig's, as who made it says
	partLine                      // a line's end; shift: how many blanks more are ahead from there on
)

type part struct {
	kind  partKind
	text  string
	which int
	shift int
}

// indent is how many blanks more a block's lines have ahead.
const indent = 2

// spell hands out, in order, the tokens and the lines' ends of a tree that may be.
// What is still to come is on a stack of its own: a tree may have more levels than calls may be deep.
func spell(t api.Tree, put func(x part)) {
	all := kinds()
	stack := []part{{kind: partKid}}
	for len(stack) > 0 {
		x := stack[len(stack)-1]
		stack = stack[:len(stack)-1]
		if x.kind != partKid {
			put(x)
			continue
		}
		w := t.Twigs[x.which]
		l := settle(t, w, all[w.Kind].parts(t, w))
		slices.Reverse(l)
		stack = append(stack, l...)
	}
}

// settle tells the parts of w with its kids' own numbers, and with the parentheses that they are in.
func settle(t api.Tree, w api.Twig, parts []part) []part {
	var l []part
	for _, x := range parts {
		if x.kind != partKid {
			l = append(l, x)
			continue
		}
		nth := x.which
		x.which = w.Kids[nth]
		if inParentheses(w, nth, t.Twigs[x.which]) {
			l = append(l, tokenPart("("), x, tokenPart(")"))
		} else {
			l = append(l, x)
		}
	}
	return l
}

// page is a text on which parts are put, one behind the other. Last is the token ahead on the line (none: no bytes).
type page struct {
	text   strings.Builder
	last   string
	margin int
}

func (p *page) put(x part) {
	if x.kind == partLine {
		p.text.WriteByte('\n')
		p.margin += x.shift
		p.last = ""
		return
	}
	if p.last == "" {
		p.text.WriteString(strings.Repeat(" ", p.margin))
	} else if standApart(p.last, x.text) {
		p.text.WriteByte(' ')
	}
	p.text.WriteString(x.text)
	p.last = x.text
}

func standApart(a, b string) bool {
	switch b {
	case ";", ".", "]", ")", "[":
		return false
	}
	switch a {
	case ".", "[", "(":
		return false
	}
	return true
}

func tokenPart(s string) part {
	return part{kind: partToken, text: s}
}

func kidPart(nth int) part {
	return part{kind: partKid, which: nth}
}

func linePart(shift int) part {
	return part{kind: partLine, shift: shift}
}

// fill tells the parts of w by a form: @ is its Text, # its N, a digit one of its kids, all else a token.
func fill(w api.Twig, form string) []part {
	var l []part
	for _, s := range strings.Fields(form) {
		switch s {
		case "@":
			l = append(l, tokenPart(w.Text))
		case "#":
			l = append(l, tokenPart(strconv.FormatInt(w.N, 10)))
		case "0", "1", "2":
			l = append(l, kidPart(int(s[0]-'0')))
		default:
			l = append(l, tokenPart(s))
		}
	}
	return l
}

func form(s string) func(t api.Tree, w api.Twig) []part {
	return func(_ api.Tree, w api.Twig) []part { return fill(w, s) }
}

// braced tells the kids of w from one on, in braces, each on lines of its own.
func braced(w api.Twig, from int) []part {
	if len(w.Kids) == from {
		return fill(w, "{ }")
	}
	l := []part{tokenPart("{"), linePart(indent)}
	for nth := from; nth < len(w.Kids); nth++ {
		l = append(l, kidPart(nth), linePart(0))
	}
	l[len(l)-1] = linePart(-indent)
	return append(l, tokenPart("}"))
}

func progParts(_ api.Tree, w api.Twig) []part {
	var l []part
	for nth := range w.Kids {
		l = append(l, kidPart(nth), linePart(0))
	}
	return l
}

func classParts(_ api.Tree, w api.Twig) []part {
	l := fill(w, "class @ {")
	for nth := range w.Kids {
		l = append(l, kidPart(nth))
	}
	return append(l, tokenPart("}"))
}

func compParts(_ api.Tree, w api.Twig) []part {
	return append(fill(w, "comp @ on 0"), braced(w, 1)...)
}

func lifeParts(_ api.Tree, w api.Twig) []part {
	lives := [api.Lives]string{"create", "start", "stop", "destroy"}
	return fill(w, lives[w.N]+" 0")
}

func eventParts(_ api.Tree, w api.Twig) []part {
	if w.N == 0 {
		return fill(w, "event @ on 0 off 1")
	}
	return fill(w, "event @ on 0 on 1")
}

func blockParts(_ api.Tree, w api.Twig) []part {
	return braced(w, 0)
}

func postParts(_ api.Tree, w api.Twig) []part {
	switch {
	case w.N < 0:
		return fill(w, "post @ 0 front"+toVariable(w)+" ;")
	case w.N > 0:
		return fill(w, "post @ 0 after #"+toVariable(w)+" ;")
	}
	return fill(w, "post @ 0"+toVariable(w)+" ;")
}

func spawnParts(_ api.Tree, w api.Twig) []part {
	return fill(w, "spawn 0"+toVariable(w)+" ;")
}

func toVariable(w api.Twig) string {
	if len(w.Kids) > 1 {
		return " to 1"
	}
	return ""
}

func ifParts(t api.Tree, w api.Twig) []part {
	if len(t.Twigs[w.Kids[2]].Kids) == 0 {
		return fill(w, "if 0 1")
	}
	return fill(w, "if 0 1 else 2")
}
