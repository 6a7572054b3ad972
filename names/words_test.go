package names

import (
	"cmp"
	"math/rand"
	"reflect"
	"slices"
	"strconv"
	"strings"
	"testing"

	"detent/api"
	"detent/tree"
)

// node is a twig with its kids, of which plant makes a tree.
type node struct {
	kind api.TwigKind
	text string
	n    int64
	kids []node
}

func mk(kind api.TwigKind, text string, n int64, kids ...node) node {
	return node{kind, text, n, kids}
}

// plant lays a node's twigs, each with a place of its own.
func plant(root node) api.Tree {
	var t api.Tree
	var lay func(x node) int
	lay = func(x node) int {
		at := len(t.Twigs)
		t.Twigs = append(t.Twigs, api.Twig{Kind: x.kind, Text: x.text, N: x.n, Line: 7 * at, Col: -at})
		for _, k := range x.kids {
			kid := lay(k)
			t.Twigs[at].Kids = append(t.Twigs[at].Kids, kid)
		}
		return at
	}
	lay(root)
	return t
}

// garden grows random programs, of few names.
type garden struct{ r *rand.Rand }

func (g garden) name() string {
	return string(rune('a' + g.r.Intn(9)))
}

func (g garden) typ() node {
	return mk(api.TwigType, []string{"int", "fn", "tok", "hand", "arr", g.name()}[g.r.Intn(6)], 0)
}

func (g garden) use() node {
	return mk(api.TwigUse, g.name(), 0)
}

func (g garden) prog() node {
	p := mk(api.TwigProg, "", 0)
	for range g.r.Intn(6) {
		p.kids = append(p.kids, g.declaration())
	}
	// Most programs have these, so that there are many with which nothing is wrong.
	for _, k := range []node{mk(api.TwigLooper, g.name(), 0), mk(api.TwigGlobal, g.name(), 0, g.typ()), mk(api.TwigMain, "", 0, g.block(5)), mk(api.TwigFunc, g.name(), 0, g.block(4))} {
		if g.r.Intn(20) > 0 {
			p.kids = slices.Insert(p.kids, g.r.Intn(len(p.kids)+1), k)
		}
	}
	return p
}

func (g garden) declaration() node {
	switch g.r.Intn(13) {
	case 0, 1:
		return mk(api.TwigLooper, g.name(), 0)
	case 2, 3:
		c := mk(api.TwigClass, g.name(), 0)
		for range g.r.Intn(3) {
			c.kids = append(c.kids, mk(api.TwigMember, g.name(), 0, g.typ()))
		}
		return c
	case 4, 5:
		return mk(api.TwigGlobal, g.name(), 0, g.typ())
	case 6, 7:
		return mk(api.TwigFunc, g.name(), 0, g.block(3))
	case 8, 9:
		c := mk(api.TwigComp, g.name(), 0, g.use())
		for range g.r.Intn(4) {
			c.kids = append(c.kids, mk(api.TwigLife, "", int64(g.r.Intn(api.Lives)), g.block(2)))
		}
		return c
	case 10, 11:
		return mk(api.TwigEvent, g.name(), int64(g.r.Intn(2)), g.use(), g.block(2))
	}
	return mk(api.TwigMain, "", 0, g.block(3))
}

func (g garden) block(levels int) node {
	b := mk(api.TwigBlock, "", 0)
	for range g.r.Intn(levels + 2) {
		b.kids = append(b.kids, g.statement(levels-1))
	}
	return b
}

func (g garden) statement(levels int) node {
	term := func() node { return g.term(levels) }
	kids := []node{term()}
	if g.r.Intn(2) == 0 {
		kids = append(kids, g.use())
	}
	switch kind := api.TwigVar + api.TwigKind(g.r.Intn(int(api.TwigReturn-api.TwigVar)+4)); kind {
	case api.TwigSet:
		return mk(kind, "", 0, g.use(), term())
	case api.TwigCall, api.TwigCancel, api.TwigJoin, api.TwigLog:
		return mk(kind, "", 0, term())
	case api.TwigPost:
		return mk(kind, g.name(), int64(g.r.Intn(3)-1), kids...)
	case api.TwigSpawn:
		return mk(kind, "", 0, kids...)
	case api.TwigEnable, api.TwigDisable:
		return mk(kind, g.name(), 0)
	case api.TwigIf:
		return mk(kind, "", 0, term(), g.block(levels), g.block(levels))
	case api.TwigWhile:
		return mk(kind, "", 0, term(), g.block(levels))
	case api.TwigReturn:
		return mk(kind, "", 0)
	}
	return mk(api.TwigVar, g.name(), 0, g.typ(), term())
}

func (g garden) term(levels int) node {
	if levels <= 0 {
		return []node{mk(api.TwigNumber, "", 5), mk(api.TwigNull, "", 0), mk(api.TwigIt, "", 0), g.use(), g.use(), g.use(), mk(api.TwigNew, g.name(), 0)}[g.r.Intn(7)]
	}
	switch g.r.Intn(7) {
	case 0:
		return mk(api.TwigDot, g.name(), 0, g.term(levels-1))
	case 1:
		return mk(api.TwigIndex, "", 0, g.term(levels-1), g.term(levels-1))
	case 2:
		return mk(api.TwigOp, "<", 0, g.term(levels-1), g.term(levels-1))
	case 3:
		return mk(api.TwigLen, "", 0, g.term(levels-1))
	case 4, 5:
		return mk(api.TwigFn, "", 0, g.block(levels))
	}
	return g.term(0)
}

// book tells of a tree, word for word, what the chapter says: slowly, and each thing on its own.
type book struct {
	t         api.Tree
	ups       []int
	ends      []int
	declared  []int
	functions []int
	locals    []int
}

func open(t api.Tree) book {
	b := book{t: t, ups: tree.Ups(t), ends: make([]int, len(t.Twigs))}
	for i := len(t.Twigs) - 1; i >= 0; i-- {
		b.ends[i] = i + 1
		if kids := t.Twigs[i].Kids; len(kids) > 0 {
			b.ends[i] = b.ends[kids[len(kids)-1]]
		}
	}
	b.declared = b.of(api.TwigLooper, api.TwigClass, api.TwigGlobal, api.TwigFunc, api.TwigComp, api.TwigEvent)
	b.functions = b.of(api.TwigFunc, api.TwigLife, api.TwigEvent, api.TwigMain, api.TwigFn)
	b.locals = b.of(api.TwigVar)
	return b
}

func (b book) kind(i int) api.TwigKind { return b.t.Twigs[i].Kind }

func (b book) text(i int) string { return b.t.Twigs[i].Text }

// below tells whether a twig is another one, or below it.
func (b book) below(i, up int) bool { return up <= i && i < b.ends[up] }

// all tells the twigs that are so.
func (b book) all(is func(i int) bool) []int {
	var l []int
	for i := range b.t.Twigs {
		if is(i) {
			l = append(l, i)
		}
	}
	return l
}

func (b book) of(kinds ...api.TwigKind) []int {
	return b.all(func(i int) bool { return slices.Contains(kinds, b.kind(i)) })
}

// body is a function's block.
func (b book) body(function int) int {
	kids := b.t.Twigs[function].Kids
	return kids[len(kids)-1]
}

// function tells the number of the innermost function in which a twig stands, that is, in its block (-1: none).
func (b book) function(i int) int {
	owner := -1
	for nth, f := range b.functions {
		if b.below(i, b.body(f)) {
			owner = nth // later ones are further inside
		}
	}
	return owner
}

// nearest tells the twig that makes known what a name means at a twig (-1: none).
func (b book) nearest(i int, name string) int {
	var known []int
	for _, v := range b.locals {
		if b.text(v) == name && b.below(i, b.ups[v]) && b.ends[v] <= i {
			known = append(known, v)
		}
	}
	if len(known) > 0 {
		return slices.MinFunc(known, func(v, w int) int {
			return cmp.Or(cmp.Compare(b.ups[w], b.ups[v]), cmp.Compare(v, w)) // blocks around, of which a later one is further inside
		})
	}
	for _, d := range b.declared {
		if b.text(d) == name {
			return d
		}
	}
	return -1
}

// must tells the kinds of twigs of which a twig's name must mean one (none: it need not).
func (b book) must(i int) []api.TwigKind {
	switch b.kind(i) {
	case api.TwigUse:
		if k := b.kind(b.ups[i]); k == api.TwigComp || k == api.TwigEvent {
			return []api.TwigKind{api.TwigLooper}
		}
		return []api.TwigKind{api.TwigVar, api.TwigGlobal, api.TwigFunc}
	case api.TwigPost:
		return []api.TwigKind{api.TwigLooper}
	case api.TwigEnable, api.TwigDisable:
		return []api.TwigKind{api.TwigEvent}
	case api.TwigNew:
		return []api.TwigKind{api.TwigClass}
	case api.TwigType:
		if !slices.Contains([]string{"int", "fn", "tok", "hand", "arr"}, b.text(i)) {
			return []api.TwigKind{api.TwigClass}
		}
	}
	return nil
}

func (b book) isWrong(i int) api.Errno {
	ahead := func(is func(j int) bool) bool {
		return slices.ContainsFunc(b.all(is), func(j int) bool { return j < i })
	}
	sibling := func(j int) bool { return b.kind(j) == b.kind(i) && b.ups[j] == b.ups[i] }
	twice := false
	switch b.kind(i) {
	case api.TwigLooper, api.TwigClass, api.TwigGlobal, api.TwigFunc, api.TwigComp, api.TwigEvent:
		twice = slices.ContainsFunc(b.declared, func(j int) bool { return j < i && b.text(j) == b.text(i) })
	case api.TwigMain:
		twice = ahead(sibling)
	case api.TwigMember, api.TwigVar:
		twice = ahead(func(j int) bool { return sibling(j) && b.text(j) == b.text(i) })
	case api.TwigLife:
		twice = ahead(func(j int) bool { return sibling(j) && b.t.Twigs[j].N == b.t.Twigs[i].N })
	}
	if twice {
		return api.ErrTwice
	}
	if kinds := b.must(i); len(kinds) > 0 {
		if d := b.nearest(i, b.text(i)); d < 0 || !slices.Contains(kinds, b.kind(d)) {
			return api.ErrName
		}
	}
	return api.OK
}

// wrong tells what is wrong, and of which twigs.
func (b book) wrong() ([]api.Diag, []int) {
	var l []api.Diag
	var at []int
	add := func(i int, err api.Errno) {
		l = append(l, api.Diag{Line: b.t.Twigs[i].Line, Col: b.t.Twigs[i].Col, Err: err})
		at = append(at, i)
	}
	for _, kind := range []api.TwigKind{api.TwigMain, api.TwigLooper} {
		if len(b.of(kind)) == 0 {
			add(0, api.ErrNone)
		}
	}
	for i := range b.t.Twigs {
		if err := b.isWrong(i); err != api.OK {
			add(i, err)
		}
	}
	return l, at
}

// mean tells what a twig means, of a tree with which nothing is wrong.
func (b book) mean(i int) api.Mean {
	if len(b.must(i)) == 0 {
		return api.Mean{}
	}
	d := b.nearest(i, b.text(i))
	switch k := b.kind(d); k {
	case api.TwigVar:
		return api.Mean{Kind: api.MeanLocal, N: d}
	case api.TwigFunc:
		return api.Mean{Kind: api.MeanFunc, N: slices.Index(b.functions, d)}
	default:
		kinds := map[api.TwigKind]api.MeanKind{api.TwigGlobal: api.MeanGlobal, api.TwigLooper: api.MeanLooper, api.TwigClass: api.MeanClass, api.TwigEvent: api.MeanEvent}
		return api.Mean{Kind: kinds[k], N: slices.Index(b.of(k), d)}
	}
}

func (b book) functionName(i int) string {
	switch b.kind(i) {
	case api.TwigLife:
		return b.text(b.ups[i]) + "." + []string{"create", "start", "stop", "destroy"}[b.t.Twigs[i].N]
	case api.TwigMain:
		return "main"
	case api.TwigFn:
		for _, o := range b.functions { // the first one in which it stands is the outermost one
			if b.below(i, b.body(o)) {
				inner := b.all(func(j int) bool { return b.kind(j) == api.TwigFn && b.below(j, o) })
				return b.functionName(o) + "." + strconv.Itoa(1+slices.Index(inner, i))
			}
		}
	}
	return b.text(i)
}

func (b book) captures(function int) []int {
	var l []int
	for _, i := range b.of(api.TwigUse) {
		m := b.mean(i)
		if b.below(i, b.body(function)) && m.Kind == api.MeanLocal && !b.below(m.N, function) && !slices.Contains(l, m.N) {
			l = append(l, m.N)
		}
	}
	return l
}

func (b book) names() api.Names {
	n := api.Names{Loopers: b.of(api.TwigLooper), Classes: b.of(api.TwigClass), Globals: b.of(api.TwigGlobal), Comps: b.of(api.TwigComp), Events: b.of(api.TwigEvent)}
	for i := range b.t.Twigs {
		n.Means = append(n.Means, b.mean(i))
		n.Owners = append(n.Owners, b.function(i))
	}
	for nth, f := range b.functions {
		n.Funcs = append(n.Funcs, api.NamedFunc{Twig: f, Up: b.function(f), Name: b.functionName(f), Captures: b.captures(f)})
		if b.kind(f) == api.TwigMain {
			n.Main = nth
		}
	}
	return n
}

// mend gives twigs with which something is wrong other names, so that less is wrong.
func (g garden) mend(t api.Tree, at []int) api.Tree {
	b := open(t)
	t = api.Tree{Twigs: slices.Clone(t.Twigs)}
	for _, i := range at {
		w := &t.Twigs[i]
		var right, locals []string
		for c := 'a'; c <= 'i'; c++ {
			if d := b.nearest(i, string(c)); d >= 0 && slices.Contains(b.must(i), b.kind(d)) {
				right = append(right, string(c))
				if b.kind(d) == api.TwigVar {
					locals = append(locals, string(c))
				}
			}
		}
		if len(locals) > 0 {
			right = locals
		}
		switch {
		case len(right) > 0:
			w.Text = right[g.r.Intn(len(right))]
		case w.Kind == api.TwigType:
			w.Text = "int"
		case w.Kind == api.TwigEnable, w.Kind == api.TwigDisable:
			w.Kind, w.Text = api.TwigReturn, ""
		case w.Kind == api.TwigNew:
			w.Kind, w.Text = api.TwigIt, ""
		case w.Kind == api.TwigUse, w.Kind == api.TwigPost:
		case w.Kind == api.TwigLife:
			w.N = int64(g.r.Intn(api.Lives))
		case w.Kind != api.TwigProg && w.Kind != api.TwigMain:
			w.Text = g.name()
		}
	}
	return t
}

// asTold holds what Resolve tells of a tree against the book, and tells the twigs with which something is wrong.
func asTold(t *testing.T, x api.Tree) (api.Names, []int) {
	t.Helper()
	b := open(x)
	want, at := b.wrong()
	n, wrong := Resolve(x)
	if !slices.Equal(wrong, want) {
		t.Fatalf("Resolve of\n%s%v, want %v", tree.Print(x), wrong, want)
	}
	var names api.Names
	if len(want) == 0 {
		names = b.names()
	}
	if !reflect.DeepEqual(n, names) {
		t.Fatalf("Resolve of\n%s%+v, want\n%+v", tree.Print(x), n, names)
	}
	return n, at
}

// P4.1, P4.2, P4.3: random programs, right and wrong, are held against what the chapter says, word for word.
func TestRandomPrograms(t *testing.T) {
	g := garden{rand.New(rand.NewSource(4))}
	right, captured, longest := 0, 0, 0
	seen := map[api.MeanKind]int{}
	for range 1000 {
		x := plant(g.prog())
		n, at := asTold(t, x)
		for range 12 {
			if len(at) == 0 {
				break
			}
			x = g.mend(x, at)
			n, at = asTold(t, x)
		}
		if len(at) > 0 {
			continue
		}
		right++
		follows(t, x, n)
		renamed(t, x, n)
		captured += len(Captured(n))
		for _, m := range n.Means {
			seen[m.Kind]++
		}
		for _, f := range n.Funcs {
			longest = max(longest, len(f.Captures))
		}
	}
	if right < 300 || captured < 300 || longest < 4 {
		t.Errorf("%d are right, with %d captured locals, at most %d of one function: that is not much", right, captured, longest)
	}
	for k := api.MeanLocal; k <= api.MeanEvent; k++ {
		if seen[k] < 100 {
			t.Errorf("of kind %d, %d are meant: that is not much", k, seen[k])
		}
	}
}

// P4.2, P4.3: what follows for names of a tree.
func follows(t *testing.T, x api.Tree, n api.Names) {
	t.Helper()
	b := open(x)
	for i, m := range n.Means {
		if m.Kind == api.MeanLocal && (b.kind(m.N) != api.TwigVar || m.N >= i || b.ends[m.N] > i || !b.below(i, b.ups[m.N]) || b.text(m.N) != b.text(i)) {
			t.Fatalf("%d means the local %d in\n%s", i, m.N, tree.Print(x))
		}
	}
	want := map[int]int{}
	for _, f := range n.Funcs {
		for _, v := range f.Captures {
			want[v]++
			if f.Up < 0 || n.Owners[v] != f.Up && !slices.Contains(n.Funcs[f.Up].Captures, v) {
				t.Fatalf("%s captures %d, which the one around it has not, in\n%s", f.Name, v, tree.Print(x))
			}
		}
	}
	got := Captured(n)
	if len(got) != len(want) || !slices.IsSorted(got) || slices.ContainsFunc(got, func(v int) bool { return want[v] == 0 }) {
		t.Fatalf("Captured: %v, want %v", got, want)
	}
}

// rename gives each name another one, but for words.
func rename(s string) string {
	switch s {
	case "", "int", "fn", "tok", "hand", "arr", "<":
		return s
	}
	return "new_" + s
}

// P4.3: names that are changed everywhere alike, to such as there were not, mean the same; and what is wrong is so.
func renamed(t *testing.T, x api.Tree, n api.Names) {
	t.Helper()
	y := api.Tree{Twigs: slices.Clone(x.Twigs)}
	for i := range y.Twigs {
		y.Twigs[i].Text = rename(y.Twigs[i].Text)
	}
	got, wrong := Resolve(y)
	want := n
	want.Funcs = slices.Clone(n.Funcs)
	for i, f := range want.Funcs {
		if !strings.HasPrefix(f.Name, "main") {
			want.Funcs[i].Name = rename(f.Name)
		}
	}
	if len(wrong) > 0 || !reflect.DeepEqual(got, want) {
		t.Fatalf("Resolve of\n%s%v, %+v, want %+v", tree.Print(y), wrong, got, want)
	}
}

// P4.3: one name alone is changed to one that there was not, everywhere.
func TestOneNameChanged(t *testing.T) {
	x, n := resolved(t, "looper a; class b { a int; c b; } var c b; fn d { call d; post a d; } comp e on a { start { log c; } } event f on a on { disable f; }\nmain { var a int = 1; var c b = new b; call fn { var c int = a; log c + a; enable f; }; log c.a; }")
	for _, name := range []string{"a", "b", "c", "d", "e", "f"} {
		y := api.Tree{Twigs: slices.Clone(x.Twigs)}
		for i := range y.Twigs {
			if y.Twigs[i].Text == name {
				y.Twigs[i].Text = "other"
			}
		}
		got, wrong := Resolve(y)
		if len(wrong) > 0 || !reflect.DeepEqual(got.Means, n.Means) || !slices.EqualFunc(got.Funcs, n.Funcs, func(f, g api.NamedFunc) bool { return slices.Equal(f.Captures, g.Captures) }) {
			t.Errorf("%s renamed: %v, %+v, want %+v", name, wrong, got, n)
		}
	}
}

// P4.1: a tree that may not be: ErrArg, at 0, 0; and no call panics.
func TestNoTrees(t *testing.T) {
	good := func() api.Tree { return parsed(t, "looper a; main { var x int = 1; log fn { log x; }; }") }
	trees := []api.Tree{{}, {Twigs: []api.Twig{}}, {Twigs: good().Twigs[1:]}, {Twigs: good().Twigs[:5]}, {Twigs: []api.Twig{{Kind: api.TwigProg}, {Kind: api.TwigLooper, Text: "a"}}}}
	for i := range good().Twigs {
		for _, spoil := range []func(w *api.Twig){
			func(w *api.Twig) { w.Kind = 0 },
			func(w *api.Twig) { w.Kind = api.TwigFn + 1 },
			func(w *api.Twig) { w.Text = "9" },
			func(w *api.Twig) { w.N = -2 },
			func(w *api.Twig) { w.Kids = append(w.Kids, 1) },
			func(w *api.Twig) { w.Kids = []int{-1} },
			func(w *api.Twig) { w.Kids = []int{99} },
			func(w *api.Twig) { w.Kids = []int{i} },
		} {
			x := good()
			spoil(&x.Twigs[i])
			trees = append(trees, x)
		}
	}
	deep := mk(api.TwigBlock, "", 0)
	for range api.MaxDepth {
		deep = mk(api.TwigBlock, "", 0, mk(api.TwigWhile, "", 0, mk(api.TwigIt, "", 0), deep))
	}
	trees = append(trees, plant(mk(api.TwigProg, "", 0, mk(api.TwigLooper, "a", 0), mk(api.TwigMain, "", 0, deep))))
	for _, x := range trees {
		n, wrong := Resolve(x)
		if !slices.Equal(wrong, []api.Diag{{Err: api.ErrArg}}) || !reflect.DeepEqual(n, api.Names{}) {
			t.Errorf("Resolve of %+v: %v, %v", x, n, wrong)
		}
	}
}

// P4.1, P4.2: what is handed in is not changed, and what is answered shares no memory with it, nor do two lists of it.
func TestKeepsApart(t *testing.T) {
	text := "looper a; looper b; class C { x C; } class D { } var g int; var h int; comp m on a { } comp n on b { } event d on a on { } event e on b on { }\nmain { var x int = 1; var y int = 2; call fn { log x + y; call fn { log y + x; }; }; }"
	lists := func(n *api.Names) []*[]int {
		l := []*[]int{&n.Owners, &n.Loopers, &n.Classes, &n.Globals, &n.Comps, &n.Events}
		for i := range n.Funcs {
			l = append(l, &n.Funcs[i].Captures)
		}
		return l
	}
	x, want := resolved(t, text)
	if !reflect.DeepEqual(x, parsed(t, text)) {
		t.Error("the tree was changed")
	}
	for i := range lists(&want) {
		x, n := resolved(t, text)
		p := lists(&n)[i]
		clear((*p)[:cap(*p)])
		*p = slices.Clone(*lists(&want)[i])
		if !reflect.DeepEqual(n, want) || !reflect.DeepEqual(x, parsed(t, text)) {
			t.Errorf("list %d shares memory with others", i)
		}
	}
	y, n := resolved(t, text)
	for i := range y.Twigs {
		clear(y.Twigs[i].Kids)
		y.Twigs[i] = api.Twig{}
	}
	if !reflect.DeepEqual(n, want) {
		t.Error("names change with the tree")
	}
}

// P4.1: many levels of twigs, many names, many blocks, many functions are no matter.
func TestLongPrograms(t *testing.T) {
	const n = 20000
	ahead := "looper a; var x int; main { var y int = 1; "
	for _, c := range []struct {
		body    string
		means   int
		capture bool
	}{
		{"log x" + strings.Repeat(" + x", n) + ";", n + 1, false},
		{"log x" + strings.Repeat("[x]", n) + ";", n + 1, false},
		{"log x" + strings.Repeat(".x", n) + ";", 1, false},
		{strings.Repeat("log x; ", n), n, false},
		{strings.Repeat("if y { var x int = y; log x; } ", n), 3 * n, false},
		{strings.Repeat("call fn { var x int = y; log x; }; ", n), 2 * n, true},
		{"log " + strings.Repeat("fn { log ", 60) + "y" + strings.Repeat("; }", 60) + ";", 1, true},
	} {
		x, names := resolved(t, ahead+c.body+" }")
		got := 0
		for _, m := range names.Means {
			if m.Kind != 0 {
				got++
			}
		}
		if got != c.means {
			t.Errorf("%.40q: %d are meant, want %d", c.body, got, c.means)
		}
		for _, f := range names.Funcs[1:] {
			if c.capture && (len(f.Captures) != 1 || x.Twigs[f.Captures[0]].Text != "y") {
				t.Fatalf("%.40q: %s captures %v", c.body, f.Name, f.Captures)
			}
		}
	}
	var many strings.Builder
	many.WriteString("looper a; main { ")
	for i := range n {
		many.WriteString("var v" + strconv.Itoa(i) + " int = 1; ")
	}
	for i := range n {
		many.WriteString("log v" + strconv.Itoa(i) + "; ")
	}
	resolved(t, many.String()+"}")
}
