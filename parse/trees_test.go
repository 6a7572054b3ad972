package parse

import (
	"math/rand"
	"reflect"
	"slices"
	"strconv"
	"strings"
	"testing"

	"detent/api"
	"detent/token"
	"detent/tree"
)

// node is a twig with its kids.
type node struct {
	kind api.TwigKind
	text string
	n    int64
	kids []node
}

func mk(kind api.TwigKind, text string, n int64, kids ...node) node {
	return node{kind, text, n, kids}
}

func pick(r *rand.Rand, l ...string) string { return l[r.Intn(len(l))] }

func randomName(r *rand.Rand) string {
	return pick(r, "a", "b", "_", "x9", "Fn", "ui", "onn", strings.Repeat("Z", api.MaxWord))
}

func randomProgram(r *rand.Rand) node {
	p := mk(api.TwigProg, "", 0)
	for range r.Intn(4) {
		p.kids = append(p.kids, randomDeclaration(r))
	}
	return p
}

func randomType(r *rand.Rand) node {
	return mk(api.TwigType, pick(r, "int", "fn", "tok", "hand", "arr", randomName(r)), 0)
}

func randomDeclaration(r *rand.Rand) node {
	name, use := randomName(r), mk(api.TwigUse, randomName(r), 0)
	switch r.Intn(7) {
	case 0:
		return mk(api.TwigLooper, name, 0)
	case 1:
		c := mk(api.TwigClass, name, 0)
		for range r.Intn(3) {
			c.kids = append(c.kids, mk(api.TwigMember, randomName(r), 0, randomType(r)))
		}
		return c
	case 2:
		return mk(api.TwigGlobal, name, 0, randomType(r))
	case 3:
		return mk(api.TwigFunc, name, 0, randomBlock(r, 3))
	case 4:
		c := mk(api.TwigComp, name, 0, use)
		for range r.Intn(3) {
			c.kids = append(c.kids, mk(api.TwigLife, "", int64(r.Intn(api.Lives)), randomBlock(r, 2)))
		}
		return c
	case 5:
		return mk(api.TwigEvent, name, int64(r.Intn(2)), use, randomBlock(r, 2))
	}
	return mk(api.TwigMain, "", 0, randomBlock(r, 4))
}

// randomBlock is of at most some levels of blocks and terms.
func randomBlock(r *rand.Rand, levels int) node {
	b := mk(api.TwigBlock, "", 0)
	for range r.Intn(levels + 1) {
		b.kids = append(b.kids, randomStatement(r, levels-1))
	}
	return b
}

func randomStatement(r *rand.Rand, levels int) node {
	term := func() node { return randomTerm(r, levels) }
	kids := []node{term()}
	if r.Intn(2) == 0 {
		kids = append(kids, randomVariable(r, levels))
	}
	switch kind := api.TwigVar + api.TwigKind(r.Intn(int(api.TwigReturn-api.TwigVar)+1)); kind {
	case api.TwigVar:
		return mk(kind, randomName(r), 0, randomType(r), term())
	case api.TwigSet:
		return mk(kind, "", 0, randomVariable(r, levels), term())
	case api.TwigPost:
		return mk(kind, randomName(r), []int64{-1, 0, 1, 7, api.MaxNumber}[r.Intn(5)], kids...)
	case api.TwigSpawn:
		return mk(kind, "", 0, kids...)
	case api.TwigEnable, api.TwigDisable:
		return mk(kind, randomName(r), 0)
	case api.TwigIf:
		return mk(kind, "", 0, term(), randomBlock(r, levels), randomBlock(r, levels))
	case api.TwigWhile:
		return mk(kind, "", 0, term(), randomBlock(r, levels))
	case api.TwigReturn:
		return mk(kind, "", 0)
	default:
		return mk(kind, "", 0, term())
	}
}

func randomVariable(r *rand.Rand, levels int) node {
	for {
		if x := randomTerm(r, levels); x.kind == api.TwigUse || x.kind == api.TwigDot || x.kind == api.TwigIndex {
			return x
		}
	}
}

func randomTerm(r *rand.Rand, levels int) node {
	term := func() node { return randomTerm(r, levels-1) }
	if levels <= 0 {
		return []node{mk(api.TwigNumber, "", int64(r.Intn(3))), mk(api.TwigNumber, "", api.MaxNumber), mk(api.TwigNull, "", 0), mk(api.TwigIt, "", 0), mk(api.TwigUse, randomName(r), 0), mk(api.TwigNew, randomName(r), 0)}[r.Intn(6)]
	}
	switch kind := api.TwigNumber + api.TwigKind(r.Intn(int(api.TwigFn-api.TwigNumber)+1)); kind {
	case api.TwigDot:
		return mk(kind, randomName(r), 0, term())
	case api.TwigIndex:
		return mk(kind, "", 0, term(), term())
	case api.TwigOp:
		return mk(kind, pick(r, "+", "-", "*", "<", "=="), 0, term(), term())
	case api.TwigArr, api.TwigLen:
		return mk(kind, "", 0, term())
	case api.TwigFn:
		return mk(kind, "", 0, randomBlock(r, levels-1))
	}
	return randomTerm(r, 0)
}

// writer writes a node as tokens, and its twigs, the place of each of which is the number of a token (-1: 1, 1).
type writer struct {
	r      *rand.Rand
	more   int
	tokens []api.Token
	twigs  []api.Twig
	places []int
}

// render writes a node with about more of a hundred terms in parentheses, each of them perhaps several times, that need none.
func render(r *rand.Rand, x node, more int) *writer {
	w := &writer{r: r, more: more}
	w.prog(x)
	return w
}

func (w *writer) put(l ...string) {
	for _, s := range l {
		w.tokens = append(w.tokens, scanned(s)...)
	}
}

// begin adds x's twig, at the token that is put next.
func (w *writer) begin(x node, up int) int {
	at := len(w.twigs)
	w.twigs = append(w.twigs, api.Twig{Kind: x.kind, Text: x.text, N: x.n})
	w.places = append(w.places, len(w.tokens))
	if up >= 0 {
		w.twigs[up].Kids = append(w.twigs[up].Kids, at)
	}
	return at
}

func (w *writer) prog(x node) {
	at := w.begin(x, -1)
	w.places[at] = -1
	for _, k := range x.kids {
		w.declaration(k, at)
	}
}

func (w *writer) leaf(x node, up int) {
	w.begin(x, up)
	w.put(x.text)
}

func (w *writer) declaration(x node, up int) {
	at := w.begin(x, up)
	switch x.kind {
	case api.TwigLooper:
		w.put("looper", x.text, ";")
	case api.TwigClass:
		w.put("class", x.text, "{")
		for _, k := range x.kids {
			member := w.begin(k, at)
			w.put(k.text)
			w.leaf(k.kids[0], member)
			w.put(";")
		}
		w.put("}")
	case api.TwigGlobal:
		w.put("var", x.text)
		w.leaf(x.kids[0], at)
		w.put(";")
	case api.TwigFunc:
		w.put("fn", x.text)
		w.block(x.kids[0], at)
	case api.TwigComp:
		w.put("comp", x.text, "on")
		w.leaf(x.kids[0], at)
		w.put("{")
		for _, k := range x.kids[1:] {
			life := w.begin(k, at)
			w.put([]string{"create", "start", "stop", "destroy"}[k.n])
			w.block(k.kids[0], life)
		}
		w.put("}")
	case api.TwigEvent:
		w.put("event", x.text, "on")
		w.leaf(x.kids[0], at)
		w.put([]string{"off", "on"}[x.n])
		w.block(x.kids[1], at)
	case api.TwigMain:
		w.put("main")
		w.block(x.kids[0], at)
	}
}

func (w *writer) block(x node, up int) {
	at := w.begin(x, up)
	w.put("{")
	for _, k := range x.kids {
		w.statement(k, at)
	}
	w.put("}")
}

func (w *writer) statement(x node, up int) {
	at := w.begin(x, up)
	words := map[api.TwigKind]string{api.TwigVar: "var", api.TwigCall: "call", api.TwigCancel: "cancel", api.TwigJoin: "join", api.TwigLog: "log", api.TwigPost: "post", api.TwigSpawn: "spawn", api.TwigEnable: "enable", api.TwigDisable: "disable", api.TwigIf: "if", api.TwigWhile: "while", api.TwigReturn: "return"}
	w.put(words[x.kind], x.text)
	switch x.kind {
	case api.TwigVar:
		w.leaf(x.kids[0], at)
		w.put("=")
		w.term(x.kids[1], at, 0)
		w.put(";")
	case api.TwigSet:
		w.term(x.kids[0], at, 0)
		w.put("=")
		w.term(x.kids[1], at, 0)
		w.put(";")
	case api.TwigIf:
		w.term(x.kids[0], at, 0)
		w.block(x.kids[1], at)
		if len(x.kids[2].kids) == 0 && w.r.Intn(2) == 0 {
			w.places[w.begin(x.kids[2], at)] = w.places[at]
		} else {
			w.put("else")
			w.block(x.kids[2], at)
		}
	case api.TwigWhile:
		w.term(x.kids[0], at, 0)
		w.block(x.kids[1], at)
	case api.TwigEnable, api.TwigDisable, api.TwigReturn:
		w.put(";")
	default:
		w.term(x.kids[0], at, 0)
		if x.n < 0 {
			w.put("front")
		} else if x.n > 0 || x.kind == api.TwigPost && w.r.Intn(5) == 0 {
			w.put("after", strconv.FormatInt(x.n, 10))
		}
		if len(x.kids) > 1 {
			w.put("to")
			w.term(x.kids[1], at, 0)
		}
		w.put(";")
	}
}

// term writes a term that must bind with must where it stands.
func (w *writer) term(x node, up int, must int) {
	binds := tree.Binds(api.Twig{Kind: x.kind, Text: x.text})
	parentheses := 0
	if binds < must {
		parentheses = 1
	}
	for w.r.Intn(100) < w.more {
		parentheses++
	}
	w.put(strings.Repeat("(", parentheses))
	at := w.begin(x, up)
	switch x.kind {
	case api.TwigNumber:
		w.put(strings.Repeat("0", w.r.Intn(3)) + strconv.FormatInt(x.n, 10))
	case api.TwigNull:
		w.put("null")
	case api.TwigIt:
		w.put("it")
	case api.TwigUse:
		w.put(x.text)
	case api.TwigNew:
		w.put("new", x.text)
	case api.TwigDot:
		w.term(x.kids[0], at, 5)
		w.places[at] = len(w.tokens)
		w.put(".", x.text)
	case api.TwigIndex:
		w.term(x.kids[0], at, 5)
		w.places[at] = len(w.tokens)
		w.put("[")
		w.term(x.kids[1], at, 0)
		w.put("]")
	case api.TwigOp:
		w.term(x.kids[0], at, max(2, binds))
		w.places[at] = len(w.tokens)
		w.put(x.text)
		w.term(x.kids[1], at, binds+1)
	case api.TwigArr, api.TwigLen:
		w.put(map[api.TwigKind]string{api.TwigArr: "arr", api.TwigLen: "len"}[x.kind])
		w.term(x.kids[0], at, 4)
	case api.TwigFn:
		w.put("fn")
		w.block(x.kids[0], at)
	}
	w.put(strings.Repeat(")", parentheses))
}

// spread writes tokens as a text, with blanks and comments between, ahead and behind; where they may, some stand side by side.
func spread(r *rand.Rand, l []api.Token) string {
	var b strings.Builder
	apart := []string{" ", "  ", "\t", "\r\n", "\n", "\n\n ", "#\n", "# fn { ( ; ! \xff\n", " # a\r#b\n\t"}
	for i, k := range l {
		alone := k.Kind == api.TokenMark && k.Text[0] != '='
		if i > 0 && l[i-1].Kind == api.TokenMark && l[i-1].Text[0] != '=' {
			alone = true
		}
		if !alone || r.Intn(2) == 0 {
			b.WriteString(pick(r, apart...))
		}
		b.WriteString(k.Text)
	}
	return b.String() + pick(r, append(apart, "", "# the end")...)
}

// placedTree tells the tree that was written, if its tokens are these.
func (w *writer) placedTree(l []api.Token) api.Tree {
	twigs := slices.Clone(w.twigs)
	for i, at := range w.places {
		twigs[i].Line, twigs[i].Col = 1, 1
		if at >= 0 {
			twigs[i].Line, twigs[i].Col = l[at].Line, l[at].Col
		}
	}
	return api.Tree{Twigs: twigs}
}

// P3.1, P3.2: trees that may be, as texts with blanks, comments and parentheses more, are parsed to the same ones, with their places; each may be.
func TestTreesOfTexts(t *testing.T) {
	r := rand.New(rand.NewSource(1))
	seen := map[api.TwigKind]int{}
	for i := range 4000 {
		x := randomProgram(r)
		w := render(r, x, []int{0, 5, 40}[i%3])
		text := spread(r, w.tokens)
		want := w.placedTree(scanned(text))
		if !tree.May(want) {
			t.Fatalf("it may not be: %v", want)
		}
		for _, k := range want.Twigs {
			seen[k.Kind]++
		}
		got, wrong := Parse([]byte(text))
		if len(wrong) > 0 || !reflect.DeepEqual(got, want) {
			t.Fatalf("Parse(%q): %v, %s, want %s", text, wrong, dump(got), dump(want))
		}
		again, wrong := Parse([]byte(tree.Print(want)))
		if len(wrong) > 0 || !tree.Same(again, want) || !tree.May(again) {
			t.Fatalf("Parse(%q): %v, %s, want the same as %s", tree.Print(want), wrong, dump(again), dump(want))
		}
	}
	for k := api.TwigProg; k <= api.TwigFn; k++ {
		if seen[k] == 0 {
			t.Errorf("no tree has a twig of kind %d", k)
		}
	}
}

// P3.2: the text of a tree, as its tokens are printed, is parsed to the same one.
func TestTreesOfTokens(t *testing.T) {
	r := rand.New(rand.NewSource(2))
	for range 1000 {
		w := render(r, randomProgram(r), 20)
		for i := range w.tokens {
			w.tokens[i].Line, w.tokens[i].Col = r.Int(), -r.Int()
		}
		got, wrong := Tokens(w.tokens...)
		if len(wrong) > 0 || !reflect.DeepEqual(got, w.placedTree(w.tokens)) {
			t.Fatalf("Tokens of %q: %v, %s", token.Print(w.tokens...), wrong, dump(got))
		}
	}
}
