package types

import (
	"math/rand"
	"slices"
	"strconv"
	"strings"
	"testing"

	"detent/api"
	"detent/names"
	"detent/parse"
	"detent/tree"
)

// garden grows texts of random programs, with whose names nothing is wrong, and in which of each hundred terms odd ones are of any type.
type garden struct {
	r     *rand.Rand
	odd   int
	known []known
	count int
}

// known is a name that may be used where the garden is, and its type.
type known struct{ name, typ string }

// members are those of the garden's classes.
func members() map[string][]known {
	return map[string][]known{
		"C": {{"a", "int"}, {"b", "fn"}, {"c", "tok"}, {"d", "D"}},
		"D": {{"a", "C"}, {"b", "hand"}, {"e", "D"}},
		"E": {{"e", "arr"}, {"d", "int"}},
	}
}

func (g *garden) typ() string {
	return pick(g, []string{"int", "fn", "tok", "hand", "arr", "C", "D", "E"})
}

func pick[T any](g *garden, l []T) T {
	return l[g.r.Intn(len(l))]
}

// prog grows a program of a function, two components' callbacks, an event, a main one, in any order.
func (g *garden) prog() string {
	parts := []string{"looper l;", "fn f " + g.global(), "comp m on l { stop " + g.global() + " start " + g.global() + " }", "event e on l on " + g.global(), "main " + g.global(), "fn g " + g.global()}
	for class, l := range members() {
		s := "class " + class + " {"
		for _, m := range l {
			s += " " + m.name + " " + m.typ + ";"
		}
		parts = append(parts, s+" }")
	}
	for _, k := range globals() {
		parts = append(parts, "var "+k.name+" "+k.typ+";")
	}
	slices.Sort(parts) // classes were told in no order
	g.r.Shuffle(len(parts), func(i, j int) { parts[i], parts[j] = parts[j], parts[i] })
	return strings.Join(parts, "\n")
}

func globals() []known {
	return []known{{"gi", "int"}, {"gf", "fn"}, {"gt", "tok"}, {"gh", "hand"}, {"gr", "arr"}, {"gc", "C"}, {"gd", "D"}, {"ge", "E"}}
}

// global grows a block of an outermost function.
func (g *garden) global() string {
	g.known = append(globals(), known{"f", "fn"}, known{"g", "fn"})
	return g.block(4)
}

func (g *garden) block(levels int) string {
	outer := len(g.known)
	s := "{"
	for range g.r.Intn(levels + 2) {
		s += " " + g.statement(levels-1)
		if g.r.Intn(4) == 0 {
			s += "\n"
		}
	}
	g.known = g.known[:outer]
	return s + " }"
}

func (g *garden) statement(levels int) string {
	term := func(typ string) string { return g.term(typ, levels) }
	to := func(typ string) string {
		if g.r.Intn(2) == 0 {
			return ""
		}
		return " to " + g.variable(typ, levels)
	}
	switch g.r.Intn(14) {
	case 0:
		return "call " + term("fn") + ";"
	case 1:
		return "cancel " + term("tok") + ";"
	case 2:
		return "join " + term("hand") + ";"
	case 3:
		return "log " + term("int") + ";"
	case 4:
		return "post l " + term("fn") + pick(g, []string{"", " front", " after 3"}) + to("tok") + ";"
	case 5:
		return "spawn " + term("fn") + to("hand") + ";"
	case 6:
		return pick(g, []string{"enable e;", "disable e;", "return;"})
	case 7:
		return "if " + term("int") + " " + g.block(levels) + pick(g, []string{"", " else " + g.block(levels)})
	case 8:
		return "while " + term("int") + " " + g.block(levels)
	case 9, 10, 11:
		typ := g.typ()
		return g.variable(typ, levels) + " = " + g.fit(typ, levels) + ";"
	}
	g.count++
	v := known{"v" + strconv.Itoa(g.count), g.typ()}
	s := "var " + v.name + " " + v.typ + " = " + g.fit(v.typ, levels) + ";"
	g.known = append(g.known, v)
	return s
}

func (g *garden) isOdd() bool {
	return g.r.Intn(100) < g.odd
}

// variable grows one that is of a type, but for odd ones.
func (g *garden) variable(typ string, levels int) string {
	if g.isOdd() {
		typ = g.typ()
	}
	switch n := g.r.Intn(4); {
	case n == 0 && levels > 0:
		if s := g.dot(typ, levels-1); s != "" {
			return s
		}
	case n == 1 && typ == "int" && levels > 0:
		return g.term("arr", levels-1) + "[" + g.term("int", levels-1) + "]"
	}
	if g.isOdd() {
		return pick(g, g.known).name
	}
	return g.name(typ, func(k known) bool { return k.name != "f" && k.name != "g" })
}

// name tells a name of a type that is known, and is so.
func (g *garden) name(typ string, is func(k known) bool) string {
	var l []known
	for _, k := range g.known {
		if k.typ == typ && is(k) {
			l = append(l, k)
		}
	}
	return pick(g, l).name
}

// dot grows a point of a type ("": there is none).
func (g *garden) dot(typ string, levels int) string {
	if g.isOdd() {
		return g.term(g.typ(), levels) + "." + pick(g, []string{"a", "b", "e", "x"})
	}
	var l []known // classes, and members of theirs
	for _, class := range []string{"C", "D", "E"} {
		for _, m := range members()[class] {
			if m.typ == typ {
				l = append(l, known{m.name, class})
			}
		}
	}
	if len(l) == 0 {
		return ""
	}
	m := pick(g, l)
	return g.term(m.typ, levels) + "." + m.name
}

// fit grows a term that fits a type, but for odd ones.
func (g *garden) fit(typ string, levels int) string {
	if typ != "int" && g.r.Intn(8) == 0 {
		return "null"
	}
	return g.term(typ, levels)
}

// term grows one that is of a type, but for odd ones; in parentheses where it binds less tightly than others.
func (g *garden) term(typ string, levels int) string {
	if g.isOdd() {
		typ = g.typ()
	}
	if g.isOdd() {
		return "null"
	}
	if levels > 0 {
		if s := g.made(typ, levels-1); s != "" {
			return s
		}
	}
	if typ == "int" {
		return pick(g, []string{"0", "7", "it", "gi", g.name(typ, func(known) bool { return true })})
	}
	return g.name(typ, func(known) bool { return true })
}

// made grows a term of parts ("": none).
func (g *garden) made(typ string, levels int) string {
	part := func(typ string) string { return g.term(typ, levels) }
	if g.r.Intn(3) == 0 {
		return g.dot(typ, levels)
	}
	switch {
	case typ == "int" && g.r.Intn(4) == 0:
		both := g.typ()
		return "(" + g.fit(both, levels) + " == " + g.fit(both, levels) + ")"
	case typ == "int" && g.r.Intn(3) == 0:
		return part("arr") + "[" + part("int") + "]"
	case typ == "int" && g.r.Intn(4) == 0:
		return "(len " + part("arr") + ")"
	case typ == "int":
		return "(" + part("int") + pick(g, []string{" + ", " - ", " * ", " < "}) + part("int") + ")"
	case typ == "arr":
		return "(arr " + part("int") + ")"
	case typ == "fn" && g.r.Intn(2) == 0:
		return "fn " + g.block(levels)
	case typ == "C", typ == "D", typ == "E":
		return "(new " + typ + ")"
	}
	return ""
}

// book tells of a tree, word for word, what the chapter says: slowly, and each thing on its own. Types are told as texts: as they are written, "null", and "" for none.
type book struct {
	t api.Tree
	n api.Names
}

func (b book) kid(i, nth int) int { return b.t.Twigs[i].Kids[nth] }

// written tells the type of a twig that has a TwigType.
func (b book) written(i int) string {
	return b.t.Twigs[b.kid(i, 0)].Text
}

// member tells the type of a class's member ("": there is none).
func (b book) member(class, name string) string {
	for _, w := range b.t.Twigs {
		for _, k := range w.Kids {
			if w.Kind == api.TwigClass && w.Text == class && b.t.Twigs[k].Text == name {
				return b.written(k)
			}
		}
	}
	return ""
}

// own tells the type of a term as the table does, wherever that stands.
func (b book) own(i int) string {
	w := b.t.Twigs[i]
	switch w.Kind {
	case api.TwigNull:
		return "null"
	case api.TwigUse:
		switch m := b.n.Means[i]; m.Kind {
		case api.MeanLocal:
			return b.written(m.N)
		case api.MeanGlobal:
			return b.written(b.n.Globals[m.N])
		case api.MeanFunc:
			return "fn"
		}
		return ""
	case api.TwigDot:
		return b.member(b.term(b.kid(i, 0)), w.Text)
	case api.TwigNew:
		return w.Text
	case api.TwigArr:
		return "arr"
	case api.TwigFn:
		return "fn"
	}
	return "int"
}

// term tells a term's type; of one that is wrong, or of which a kid has none, none.
func (b book) term(i int) string {
	if b.isWrong(i) {
		return ""
	}
	for _, k := range b.t.Twigs[i].Kids {
		if tree.Term(b.t.Twigs[k].Kind) && b.term(k) == "" {
			return ""
		}
	}
	return b.own(i)
}

func textFits(a, b string) bool {
	return a == b || a == "null" && b != "int"
}

// isWrong tells whether a twig is not as it must be. What has no type is never told to be wrong.
func (b book) isWrong(i int) bool {
	w := b.t.Twigs[i]
	kid := func(nth int) string { return b.term(b.kid(i, nth)) }
	misfits := func(a, b string) bool { return a != "" && b != "" && !textFits(a, b) }
	isNot := func(nth int, typ string) bool { return nth < len(w.Kids) && kid(nth) != "" && kid(nth) != typ }
	isFunction := func(nth int) bool { return nth < len(w.Kids) && b.n.Means[b.kid(i, nth)].Kind == api.MeanFunc }
	switch w.Kind {
	case api.TwigDot:
		return kid(0) != "" && b.member(kid(0), w.Text) == ""
	case api.TwigIndex:
		return isNot(0, "arr") || isNot(1, "int")
	case api.TwigOp:
		if w.Text == "==" {
			return misfits(kid(0), kid(1)) && misfits(kid(1), kid(0))
		}
		return isNot(0, "int") || isNot(1, "int")
	case api.TwigLen:
		return isNot(0, "arr")
	case api.TwigArr, api.TwigLog, api.TwigIf, api.TwigWhile:
		return isNot(0, "int")
	case api.TwigVar:
		return misfits(kid(1), b.written(i))
	case api.TwigSet:
		return misfits(kid(1), kid(0)) || isFunction(0)
	case api.TwigCall:
		return isNot(0, "fn")
	case api.TwigPost:
		return isNot(0, "fn") || isNot(1, "tok") || isFunction(1)
	case api.TwigSpawn:
		return isNot(0, "fn") || isNot(1, "hand") || isFunction(1)
	case api.TwigCancel:
		return isNot(0, "tok")
	case api.TwigJoin:
		return isNot(0, "hand")
	}
	return false
}

// number tells a type's number from its text.
func (b book) number(typ string) api.Type {
	for nth, c := range b.n.Classes {
		if b.t.Twigs[c].Text == typ {
			return api.Type(-1 - nth)
		}
	}
	return map[string]api.Type{"int": api.TypeInt, "fn": api.TypeFn, "tok": api.TypeToken, "hand": api.TypeHand, "arr": api.TypeArray}[typ]
}

// typ tells what Check tells of a twig of a tree with which nothing is wrong.
func (b book) typ(i int) api.Type {
	switch w := b.t.Twigs[i]; {
	case tree.Term(w.Kind):
		return b.number(b.term(i))
	case w.Kind == api.TwigType:
		return b.number(w.Text)
	case w.Kind == api.TwigVar, w.Kind == api.TwigGlobal, w.Kind == api.TwigMember:
		return b.number(b.written(i))
	}
	return 0
}

// answers tells what Check must, and counts the kinds of twigs that are wrong.
func (b book) answers(count map[api.TwigKind]int) ([]api.Type, []api.Diag) {
	var l []api.Type
	var wrong []api.Diag
	for i, w := range b.t.Twigs {
		if b.isWrong(i) {
			wrong = append(wrong, api.Diag{Line: w.Line, Col: w.Col, Err: api.ErrType})
			count[w.Kind]++
		}
	}
	for i := range b.t.Twigs {
		if len(wrong) == 0 {
			l = append(l, b.typ(i))
		}
	}
	return l, wrong
}

// P5.1, P5.2, P5.3: random programs, right and wrong, are held against what the chapter says, word for word.
func TestRandomPrograms(t *testing.T) {
	g := &garden{r: rand.New(rand.NewSource(5))}
	right, seen := 0, map[api.TwigKind]int{}
	wrongTwigs := map[api.TwigKind]int{}
	for nth := range 1500 {
		g.odd = nth % 3 * 4
		text := g.prog()
		x, n := resolved(t, text)
		want, told := book{x, n}.answers(wrongTwigs)
		l, wrong := Check(x, n)
		if !slices.Equal(l, want) || !slices.Equal(wrong, told) {
			t.Fatalf("Check of\n%s\n%v, %v, want\n%v, %v", text, l, wrong, want, told)
		}
		asAsked(t, x, n, want)
		if len(wrong) > 0 {
			continue
		}
		right++
		follows(t, x, n, l)
		for _, w := range x.Twigs {
			seen[w.Kind]++
		}
	}
	if right < 400 {
		t.Errorf("%d are right: that is not much", right)
	}
	for k := api.TwigProg; k <= api.TwigFn; k++ {
		if seen[k] < 100 {
			t.Errorf("of kind %s there are %d in right ones: that is not much", kindWord(k), seen[k])
		}
	}
	for _, k := range []api.TwigKind{api.TwigVar, api.TwigSet, api.TwigCall, api.TwigCancel, api.TwigJoin, api.TwigLog, api.TwigPost, api.TwigSpawn, api.TwigIf, api.TwigWhile, api.TwigDot, api.TwigIndex, api.TwigOp, api.TwigArr, api.TwigLen} {
		if wrongTwigs[k] < 50 {
			t.Errorf("of kind %s %d are wrong: that is not much", kindWord(k), wrongTwigs[k])
		}
	}
}

// asAsked holds what Of and Member tell of a tree, right or wrong, against the book.
func asAsked(t *testing.T, x api.Tree, n api.Names, l []api.Type) {
	t.Helper()
	b := book{x, n}
	for i, w := range x.Twigs {
		want := api.Type(0)
		if !tree.Term(w.Kind) {
			want = b.typ(i)
		}
		if got := Of(x, n, i); got != want || len(l) > 0 && !tree.Term(w.Kind) && got != l[i] {
			t.Fatalf("Of %s at %d:%d: %d, want %d", kindWord(w.Kind), w.Line, w.Col, got, want)
		}
	}
	for class, list := range members() {
		for _, name := range []string{"a", "b", "c", "d", "e", "x"} {
			nth := slices.IndexFunc(list, func(m known) bool { return m.name == name })
			typ := api.Type(0)
			if nth >= 0 {
				typ = b.number(list[nth].typ)
			}
			if gotNth, gotTyp := Member(x, n, b.number(class), name); gotNth != nth || gotTyp != typ {
				t.Fatalf("Member(%s, %s): %d, %d, want %d, %d", class, name, gotNth, gotTyp, nth, typ)
			}
		}
	}
}

// P5.3: what is set, or goes, to something fits it.
func follows(t *testing.T, x api.Tree, n api.Names, l []api.Type) {
	t.Helper()
	for i, w := range x.Twigs {
		to, from := api.Type(0), api.Type(0)
		switch {
		case w.Kind == api.TwigVar:
			to, from = l[i], l[w.Kids[1]]
		case w.Kind == api.TwigSet:
			to, from = l[w.Kids[0]], l[w.Kids[1]]
		case w.Kind == api.TwigPost && len(w.Kids) == 2:
			to, from = l[w.Kids[1]], api.TypeToken
		case w.Kind == api.TwigSpawn && len(w.Kids) == 2:
			to, from = l[w.Kids[1]], api.TypeHand
		default:
			continue
		}
		if !Fits(from, to) || to == api.TypeNull {
			t.Fatalf("%s at %d:%d: %d does not fit %d", kindWord(w.Kind), w.Line, w.Col, from, to)
		}
	}
}

// P5.3: a term has one type, wherever it stands: names that are changed, parentheses, and places are no matter.
func TestTheSameTypes(t *testing.T) {
	g := &garden{r: rand.New(rand.NewSource(6)), odd: 3}
	for range 200 {
		text := g.prog()
		x, n := resolved(t, text)
		l, wrong := Check(x, n)
		moved, diags := parse.Parse([]byte(tree.Print(x)))
		if len(diags) > 0 || !tree.Same(x, moved) {
			t.Fatalf("Parse of what is printed of\n%s\n%v", text, diags)
		}
		for i := range moved.Twigs {
			if s := moved.Twigs[i].Text; len(s) == 1 && "A" <= s && s <= "z" {
				moved.Twigs[i].Text = "other_" + s
			}
		}
		m, diags := names.Resolve(moved)
		if len(diags) > 0 {
			t.Fatalf("Resolve of\n%s%v", tree.Print(moved), diags)
		}
		got, told := Check(moved, m)
		if !slices.Equal(got, l) || len(told) != len(wrong) {
			t.Fatalf("Check of\n%s%v, %v, want %v, %v", tree.Print(moved), got, told, l, wrong)
		}
	}
}
