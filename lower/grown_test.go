package lower

import (
	"math/rand"
	"slices"
	"strconv"
	"strings"
)

// garden grows texts of random programs with which nothing is wrong.
type garden struct {
	r     *rand.Rand
	known []known
	count int
}

// known is a name that may be used where the garden is, and its type.
type known struct{ name, typ string }

func pick[T any](g *garden, l []T) T {
	return l[g.r.Intn(len(l))]
}

// members tells points of each type, and the classes that have them.
func members(typ string) []known {
	return map[string][]known{
		"int":  {{"i", "C"}, {"e", "D"}},
		"fn":   {{"f", "C"}},
		"tok":  {{"t", "D"}},
		"hand": {{"h", "D"}},
		"arr":  {{"r", "C"}, {"r", "D"}},
		"C":    {{"c", "C"}, {"c", "D"}},
		"D":    {{"d", "C"}},
	}[typ]
}

func globals() []known {
	return []known{{"gi", "int"}, {"gj", "int"}, {"gf", "fn"}, {"gt", "tok"}, {"gh", "hand"}, {"gr", "arr"}, {"gc", "C"}, {"gd", "D"}}
}

// prog grows a program of functions of all kinds, in any order. Its main function makes objects first, so that there is something to point to.
func (g *garden) prog(levels int) string {
	main := "gc = new C; gd = new D; gr = arr 4; gc.d = gd; gd.c = gc; gc.r = gr; gd.r = arr 2; gf = f; gc.f = fn { log gi; };"
	parts := []string{
		"looper a;", "looper b;", "class C { i int; f fn; r arr; c C; d D; }", "class D { c C; r arr; t tok; h hand; e int; }",
		"fn f " + g.function("", levels), "fn g " + g.function("", levels), "comp m on b { stop " + g.function("", levels) + " create " + g.function("", levels) + " }",
		"event e on a off " + g.function("", levels), "event k on b on " + g.function("", levels), "main " + g.function(main, levels),
	}
	for _, k := range globals() {
		parts = append(parts, "var "+k.name+" "+k.typ+";")
	}
	g.r.Shuffle(len(parts), func(i, j int) { parts[i], parts[j] = parts[j], parts[i] })
	return strings.Join(parts, "\n")
}

// function grows an outermost function's block, with some statements first.
func (g *garden) function(first string, levels int) string {
	g.known = append(globals(), known{"f", "fn"}, known{"g", "fn"})
	return g.block(first, levels)
}

func (g *garden) block(first string, levels int) string {
	outer := len(g.known)
	s := "{ " + first
	for range g.r.Intn(levels + 2) {
		s += pick(g, []string{" ", " ", "\n"}) + g.statement(levels-1)
	}
	g.known = g.known[:outer]
	return s + " }"
}

func (g *garden) statement(levels int) string {
	switch g.r.Intn(16) {
	case 0:
		return "call " + g.term("fn", levels) + ";"
	case 1:
		return "cancel " + g.term("tok", levels) + ";"
	case 2:
		return "join " + g.term("hand", levels) + ";"
	case 3, 4:
		return "log " + g.term("int", levels) + ";"
	case 5:
		return "post " + pick(g, []string{"a ", "b "}) + g.term("fn", levels) + pick(g, []string{"", " front", " after 3"}) + g.to("tok", levels) + ";"
	case 6:
		return "spawn " + g.term("fn", levels) + g.to("hand", levels) + ";"
	case 7:
		return pick(g, []string{"enable e;", "disable k;", "enable k;", "if it { return; }"})
	case 8:
		return "if " + g.term("int", levels) + " " + g.block("", levels) + pick(g, []string{"", " else " + g.block("", levels)})
	case 9:
		return g.loop(levels)
	case 10, 11, 12:
		typ := g.typ()
		return g.variable(typ, levels) + " = " + g.fit(typ, levels) + ";"
	}
	typ := g.typ()
	s, v := g.local(typ, g.fit(typ, levels))
	g.known = append(g.known, v)
	return s
}

// loop grows one that mostly ends.
func (g *garden) loop(levels int) string {
	if g.r.Intn(8) == 0 {
		return "while " + g.term("int", levels) + " " + g.block("", levels)
	}
	s, v := g.local("int", strconv.Itoa(1+g.r.Intn(3)))
	g.known = append(g.known, v)
	return s + " while 0 < " + v.name + " " + g.block(v.name+" = "+v.name+" - 1;", levels)
}

// local grows a statement of one, and tells its name, which no other one has.
func (g *garden) local(typ, term string) (string, known) {
	g.count++
	v := known{"v" + strconv.Itoa(g.count), typ}
	return "var " + v.name + " " + typ + " = " + term + ";", v
}

func (g *garden) to(typ string, levels int) string {
	if g.r.Intn(2) == 0 {
		return ""
	}
	return " to " + g.variable(typ, levels)
}

func (g *garden) typ() string {
	return pick(g, []string{"int", "int", "int", "fn", "fn", "tok", "hand", "arr", "C", "C", "D"})
}

func (g *garden) variable(typ string, levels int) string {
	switch n := g.r.Intn(4); {
	case n == 0 && levels > 0:
		return g.dot(typ, levels-1)
	case n == 1 && typ == "int" && levels > 0:
		return g.term("arr", levels-1) + "[" + g.term("int", 0) + "]"
	}
	return g.name(typ, true)
}

// name tells a name of a type that is known; of those that are known last more often than of others.
func (g *garden) name(typ string, variable bool) string {
	var l []string
	for _, k := range g.known {
		if k.typ == typ && !(variable && (k.name == "f" || k.name == "g")) {
			l = append(l, k.name)
		}
	}
	slices.Reverse(l)
	return l[g.r.Intn(1+g.r.Intn(len(l)))]
}

func (g *garden) dot(typ string, levels int) string {
	m := pick(g, members(typ))
	return g.term(m.typ, levels) + "." + m.name
}

func (g *garden) fit(typ string, levels int) string {
	if typ != "int" && g.r.Intn(12) == 0 {
		return "null"
	}
	return g.term(typ, levels)
}

// term grows one of a type; in parentheses where it binds less tightly than others.
func (g *garden) term(typ string, levels int) string {
	if levels > 0 && g.r.Intn(3) > 0 {
		if s := g.made(typ, levels-1); s != "" {
			return s
		}
	}
	if typ == "int" && g.r.Intn(2) == 0 {
		return pick(g, []string{"0", "1", "2", "3", "it"})
	}
	return g.name(typ, false)
}

// made grows a term of parts ("": none).
func (g *garden) made(typ string, levels int) string {
	part := func(typ string) string { return g.term(typ, levels) }
	if g.r.Intn(3) == 0 {
		return g.dot(typ, levels)
	}
	switch {
	case typ == "int" && g.r.Intn(4) == 0:
		both := g.typ()
		return "(" + g.fit(both, levels) + " == " + g.term(both, levels) + ")"
	case typ == "int" && g.r.Intn(3) == 0:
		return part("arr") + "[" + g.term("int", 0) + "]"
	case typ == "int" && g.r.Intn(5) == 0:
		return "(len " + part("arr") + ")"
	case typ == "int":
		return "(" + part("int") + pick(g, []string{" + ", " - ", " * ", " < "}) + part("int") + ")"
	case typ == "arr":
		return "(arr " + pick(g, []string{"2", "3", part("int")}) + ")"
	case typ == "fn" && g.r.Intn(4) > 0:
		return "fn " + g.block("", levels+1)
	case typ == "C", typ == "D":
		return "(new " + typ + ")"
	}
	return ""
}
