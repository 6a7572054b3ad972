package tree

import (
	"math"
	"math/rand"
	"reflect"
	"regexp"
	"slices"
	"strings"
	"testing"

	"detent/api"
	"detent/token"
)

// node is a twig with its kids, of which plant makes a tree.
type node struct {
	kind api.TwigKind
	text string
	n    int64
	kids []node
}

func mk(kind api.TwigKind, text string, n int64, kids ...node) node {
	return node{kind, text, n, kids}
}

// plant lays a node's twigs, with places that nobody may look at.
func plant(root node) api.Tree {
	var t api.Tree
	var lay func(x node) int
	lay = func(x node) int {
		at := len(t.Twigs)
		t.Twigs = append(t.Twigs, api.Twig{Kind: x.kind, Text: x.text, N: x.n, Line: 7 * at, Col: -at})
		for _, k := range x.kids {
			kid := lay(k)
			t.Twigs[at].Kids = append(t.Twigs[at].Kids, kid)
		}
		return at
	}
	lay(root)
	return t
}

func prog(l ...node) node   { return mk(api.TwigProg, "", 0, l...) }
func block(l ...node) node  { return mk(api.TwigBlock, "", 0, l...) }
func mainOf(l ...node) node { return mk(api.TwigMain, "", 0, block(l...)) }
func typ(s string) node     { return mk(api.TwigType, s, 0) }
func use(s string) node     { return mk(api.TwigUse, s, 0) }
func num(n int64) node      { return mk(api.TwigNumber, "", n) }
func op(a node, s string, b node) node {
	return mk(api.TwigOp, s, 0, a, b)
}
func dot(a node, s string) node  { return mk(api.TwigDot, s, 0, a) }
func index(a, b node) node       { return mk(api.TwigIndex, "", 0, a, b) }
func arr(a node) node            { return mk(api.TwigArr, "", 0, a) }
func length(a node) node         { return mk(api.TwigLen, "", 0, a) }
func fn(l ...node) node          { return mk(api.TwigFn, "", 0, block(l...)) }
func null() node                 { return mk(api.TwigNull, "", 0) }
func it() node                   { return mk(api.TwigIt, "", 0) }
func set(a, b node) node         { return mk(api.TwigSet, "", 0, a, b) }
func logOf(a node) node          { return mk(api.TwigLog, "", 0, a) }
func ret() node                  { return mk(api.TwigReturn, "", 0) }
func ifOf(a, b, c node) node     { return mk(api.TwigIf, "", 0, a, b, c) }
func while(a node, b node) node  { return mk(api.TwigWhile, "", 0, a, b) }
func life(n int64, b node) node  { return mk(api.TwigLife, "", n, b) }
func member(s, t string) node    { return mk(api.TwigMember, s, 0, typ(t)) }
func logged(a node) api.Tree     { return plant(prog(mainOf(logOf(a)))) }
func inMain(l ...node) api.Tree  { return plant(prog(mainOf(l...))) }
func lines(l ...string) string   { return strings.Join(l, "\n") + "\n" }
func loggedText(s string) string { return lines("main {", "  log "+s+";", "}") }

// example is a program with twigs of all kinds.
func example() node {
	return prog(
		mk(api.TwigLooper, "ui", 0),
		mk(api.TwigClass, "Pair", 0, member("a", "int"), member("f", "fn"), member("next", "Pair")),
		mk(api.TwigClass, "Empty", 0),
		mk(api.TwigGlobal, "g", 0, typ("arr")),
		mk(api.TwigFunc, "none", 0, block()),
		mk(api.TwigFunc, "work", 0, block(
			mk(api.TwigVar, "x", 0, typ("tok"), null()),
			mk(api.TwigPost, "ui", -1, use("work")),
			mk(api.TwigPost, "ui", 0, use("work"), use("x")),
			mk(api.TwigPost, "ui", 25, fn(ret()), dot(use("g"), "t")),
			mk(api.TwigCancel, "", 0, use("x")),
		)),
		mk(api.TwigComp, "still", 0, use("ui")),
		mk(api.TwigComp, "screen", 0, use("ui"),
			life(0, block(set(use("g"), arr(num(3))))),
			life(1, block()),
			life(2, block(mk(api.TwigEnable, "tap", 0))),
			life(3, block(mk(api.TwigDisable, "tap", 0), ret()))),
		mk(api.TwigEvent, "tap", 0, use("ui"), block(logOf(it()))),
		mk(api.TwigEvent, "key", 1, use("ui"), block()),
		mainOf(
			mk(api.TwigVar, "h", 0, typ("hand"), null()),
			mk(api.TwigSpawn, "", 0, use("work"), use("h")),
			mk(api.TwigSpawn, "", 0, fn()),
			mk(api.TwigJoin, "", 0, use("h")),
			mk(api.TwigCall, "", 0, fn(while(op(num(0), "<", length(use("g"))), block(
				ifOf(op(index(use("g"), num(0)), "==", num(1)), block(ret()), block()),
				ifOf(num(1), block(), block(set(index(use("g"), num(1)), num(2)))),
			)))),
			set(dot(mk(api.TwigNew, "Pair", 0), "a"), op(op(num(1), "+", num(2)), "*", num(3))),
		),
	)
}

func exampleText() string {
	return lines(
		"looper ui;",
		"class Pair { a int; f fn; next Pair; }",
		"class Empty { }",
		"var g arr;",
		"fn none { }",
		"fn work {",
		"  var x tok = null;",
		"  post ui work front;",
		"  post ui work to x;",
		"  post ui fn {",
		"    return;",
		"  } after 25 to g.t;",
		"  cancel x;",
		"}",
		"comp still on ui { }",
		"comp screen on ui {",
		"  create {",
		"    g = arr 3;",
		"  }",
		"  start { }",
		"  stop {",
		"    enable tap;",
		"  }",
		"  destroy {",
		"    disable tap;",
		"    return;",
		"  }",
		"}",
		"event tap on ui off {",
		"  log it;",
		"}",
		"event key on ui on { }",
		"main {",
		"  var h hand = null;",
		"  spawn work to h;",
		"  spawn fn { };",
		"  join h;",
		"  call fn {",
		"    while 0 < len g {",
		"      if g[0] == 1 {",
		"        return;",
		"      }",
		"      if 1 { } else {",
		"        g[1] = 2;",
		"      }",
		"    }",
		"  };",
		"  new Pair.a = (1 + 2) * 3;",
		"}")
}

func refused(t *testing.T, what string, x api.Tree) {
	t.Helper()
	if May(x) {
		t.Errorf("%s: it may be", what)
	}
	if s := Print(x); s != "" {
		t.Errorf("%s: printed as %q", what, s)
	}
	if l := Ups(x); len(l) != 0 {
		t.Errorf("%s: Ups %v", what, l)
	}
}

// P2.1, P2.2: twigs of all kinds, as the table says.
func TestAllKinds(t *testing.T) {
	x := plant(example())
	seen := map[api.TwigKind]int{}
	for _, w := range x.Twigs {
		seen[w.Kind]++
	}
	for k := api.TwigProg; k <= api.TwigFn; k++ {
		if seen[k] == 0 {
			t.Errorf("the example has no twig of kind %d", k)
		}
	}
	if !May(x) {
		t.Fatal("the example may not be")
	}
	if s := Print(x); s != exampleText() {
		t.Errorf("printed:\n%s", s)
	}
}

// P2.2: the chapter's example, and texts of single statements and terms.
func TestPrint(t *testing.T) {
	post := func(n int64, kids ...node) api.Tree { return inMain(mk(api.TwigPost, "l", n, kids...)) }
	for _, c := range []struct {
		tree api.Tree
		text string
	}{
		{plant(prog()), ""},
		{inMain(), "main { }\n"},
		{inMain(set(use("g"), op(op(num(1), "+", num(2)), "*", use("x")))), lines("main {", "  g = (1 + 2) * x;", "}")},
		{plant(prog(mainOf(), mainOf(ret()), mk(api.TwigLooper, "l", 0))), lines("main { }", "main {", "  return;", "}", "looper l;")},
		{plant(prog(mk(api.TwigClass, "C", 0, member("a", "int")))), "class C { a int; }\n"},
		{plant(prog(mk(api.TwigClass, "C", 0))), "class C { }\n"},
		{plant(prog(mk(api.TwigComp, "c", 0, use("l")))), "comp c on l { }\n"},
		{plant(prog(mk(api.TwigComp, "c", 0, use("l"), life(3, block()), life(3, block())))), lines("comp c on l {", "  destroy { }", "  destroy { }", "}")},
		{post(-1, use("f")), lines("main {", "  post l f front;", "}")},
		{post(-1, use("f"), use("t")), lines("main {", "  post l f front to t;", "}")},
		{post(0, use("f")), lines("main {", "  post l f;", "}")},
		{post(0, use("f"), index(use("t"), num(0))), lines("main {", "  post l f to t[0];", "}")},
		{post(1, use("f")), lines("main {", "  post l f after 1;", "}")},
		{post(api.MaxNumber, dot(op(num(1), "+", num(2)), "f"), use("t")), lines("main {", "  post l (1 + 2).f after 2147483647 to t;", "}")},
		{inMain(ifOf(use("a"), block(), block())), lines("main {", "  if a { }", "}")},
		{inMain(ifOf(use("a"), block(), block(ret()))), lines("main {", "  if a { } else {", "    return;", "  }", "}")},
		{inMain(ifOf(use("a"), block(ret()), block(ret())), ret()), lines("main {", "  if a {", "    return;", "  } else {", "    return;", "  }", "  return;", "}")},
		{inMain(while(fn(ret()), block(ret()))), lines("main {", "  while fn {", "    return;", "  } {", "    return;", "  }", "}")},
		{inMain(set(index(fn(ret()), fn(ret())), fn(ret()))), lines("main {", "  fn {", "    return;", "  }[fn {", "    return;", "  }] = fn {", "    return;", "  };", "}")},
		{inMain(set(dot(fn(), "x"), fn(logOf(fn(ret()))))), lines("main {", "  fn { }.x = fn {", "    log fn {", "      return;", "    };", "  };", "}")},
	} {
		if s := Print(c.tree); s != c.text {
			t.Errorf("printed %q, want %q", s, c.text)
		}
	}
}

// P2.2: parentheses where a term binds less tightly than it must, and only there.
func TestParentheses(t *testing.T) {
	a, b, c := use("a"), use("b"), use("c")
	for _, x := range []struct {
		term node
		text string
	}{
		{op(op(a, "<", b), "<", c), "(a < b) < c"},
		{op(a, "==", op(b, "<", c)), "a == (b < c)"},
		{op(op(a, "+", b), "<", op(b, "-", c)), "a + b < b - c"},
		{op(op(a, "<", b), "+", c), "(a < b) + c"},
		{op(a, "-", op(b, "==", c)), "a - (b == c)"},
		{op(op(a, "-", b), "+", c), "a - b + c"},
		{op(a, "-", op(b, "+", c)), "a - (b + c)"},
		{op(a, "+", op(b, "*", c)), "a + b * c"},
		{op(op(a, "*", b), "-", c), "a * b - c"},
		{op(op(a, "+", b), "*", c), "(a + b) * c"},
		{op(op(a, "*", b), "*", c), "a * b * c"},
		{op(a, "*", op(b, "*", c)), "a * (b * c)"},
		{op(a, "*", op(b, "-", c)), "a * (b - c)"},
		{op(a, "*", op(b, "<", c)), "a * (b < c)"},
		{op(arr(a), "*", length(b)), "arr a * len b"},
		{op(arr(a), "<", length(b)), "arr a < len b"},
		{arr(op(a, "*", b)), "arr (a * b)"},
		{length(op(a, "<", b)), "len (a < b)"},
		{length(op(a, "+", b)), "len (a + b)"},
		{arr(length(arr(a))), "arr len arr a"},
		{length(dot(a, "f")), "len a.f"},
		{length(index(a, b)), "len a[b]"},
		{dot(length(a), "f"), "(len a).f"},
		{index(arr(a), arr(b)), "(arr a)[arr b]"},
		{index(op(a, "*", b), op(b, "<", c)), "(a * b)[b < c]"},
		{dot(op(a, "==", b), "f"), "(a == b).f"},
		{dot(index(dot(a, "f"), num(0)), "g"), "a.f[0].g"},
		{dot(num(1), "f"), "1.f"},
		{dot(null(), "f"), "null.f"},
		{index(it(), it()), "it[it]"},
		{dot(mk(api.TwigNew, "C", 0), "f"), "new C.f"},
		{index(fn(), num(0)), "fn { }[0]"},
		{index(index(op(dot(op(a, "+", b), "f"), "*", c), dot(op(a, "-", b), "g")), num(0)), "((a + b).f * c)[(a - b).g][0]"},
		{num(0), "0"},
		{num(10), "10"},
		{num(api.MaxNumber), "2147483647"},
	} {
		if s := Print(logged(x.term)); s != loggedText(x.text) {
			t.Errorf("printed %q, want %q", s, loggedText(x.text))
		}
	}
}

// bears tells, by letters of kinds (letter), which kids a kind has.
func bears() map[api.TwigKind]string {
	of := func(first, last api.TwigKind) string { return "[" + letter(first) + "-" + letter(last) + "]" }
	l := letter
	term, stmt := of(api.TwigNumber, api.TwigFn), of(api.TwigVar, api.TwigReturn)
	decl := "[" + l(api.TwigLooper) + l(api.TwigClass) + l(api.TwigGlobal) + l(api.TwigFunc) + l(api.TwigComp) + l(api.TwigEvent) + l(api.TwigMain) + "]"
	variable := "[" + l(api.TwigUse) + l(api.TwigDot) + l(api.TwigIndex) + "]"
	use, block, typ := l(api.TwigUse), l(api.TwigBlock), l(api.TwigType)
	return map[api.TwigKind]string{
		api.TwigProg: decl + "*", api.TwigClass: l(api.TwigMember) + "*", api.TwigMember: typ, api.TwigGlobal: typ,
		api.TwigFunc: block, api.TwigComp: use + l(api.TwigLife) + "*", api.TwigLife: block, api.TwigEvent: use + block,
		api.TwigMain: block, api.TwigBlock: stmt + "*", api.TwigVar: typ + term, api.TwigSet: variable + term,
		api.TwigCall: term, api.TwigCancel: term, api.TwigJoin: term, api.TwigLog: term,
		api.TwigPost: term + variable + "?", api.TwigSpawn: term + variable + "?",
		api.TwigIf: term + block + block, api.TwigWhile: term + block,
		api.TwigDot: term, api.TwigIndex: term + term, api.TwigOp: term + term, api.TwigArr: term, api.TwigLen: term, api.TwigFn: block,
	}
}

func letter(k api.TwigKind) string { return string(rune(0x4e00 + int(k))) }

// sample is the least node of a kind.
func sample(k api.TwigKind) node {
	x := use("x")
	kids := map[api.TwigKind][]node{
		api.TwigMember: {typ("int")}, api.TwigGlobal: {typ("int")}, api.TwigFunc: {block()}, api.TwigComp: {x},
		api.TwigLife: {block()}, api.TwigEvent: {x, block()}, api.TwigMain: {block()}, api.TwigVar: {typ("int"), x},
		api.TwigSet: {x, x}, api.TwigCall: {x}, api.TwigCancel: {x}, api.TwigJoin: {x}, api.TwigLog: {x}, api.TwigPost: {x},
		api.TwigSpawn: {x}, api.TwigIf: {x, block(), block()}, api.TwigWhile: {x, block()}, api.TwigDot: {x},
		api.TwigIndex: {x, x}, api.TwigOp: {x, x}, api.TwigArr: {x}, api.TwigLen: {x}, api.TwigFn: {block()},
	}
	n := mk(k, "", 0, kids[k]...)
	switch textOf(k) {
	case "name", "type":
		n.text = "x"
	case "sign":
		n.text = "+"
	}
	return n
}

// textOf tells what a kind's Text is.
func textOf(k api.TwigKind) string {
	switch k {
	case api.TwigType:
		return "type"
	case api.TwigOp:
		return "sign"
	case api.TwigLooper, api.TwigClass, api.TwigMember, api.TwigGlobal, api.TwigFunc, api.TwigComp, api.TwigEvent, api.TwigVar,
		api.TwigPost, api.TwigEnable, api.TwigDisable, api.TwigUse, api.TwigDot, api.TwigNew:
		return "name"
	}
	return "none"
}

// hosted puts a node into a program where one of its kind may stand.
func hosted(x node) api.Tree {
	switch k := x.kind; {
	case k == api.TwigProg:
		return plant(x)
	case k == api.TwigMember:
		return plant(prog(mk(api.TwigClass, "C", 0, x)))
	case k == api.TwigType:
		return plant(prog(mk(api.TwigGlobal, "g", 0, x)))
	case k == api.TwigLife:
		return plant(prog(mk(api.TwigComp, "c", 0, use("l"), x)))
	case k == api.TwigBlock:
		return plant(prog(mk(api.TwigMain, "", 0, x)))
	case k >= api.TwigVar && k <= api.TwigReturn:
		return inMain(x)
	case k >= api.TwigNumber && k <= api.TwigFn:
		return logged(x)
	}
	return plant(prog(x))
}

// P2.1: each kind with all lists of up to two kids, and with lists of three.
func TestKidsOfKinds(t *testing.T) {
	shapes := map[api.TwigKind]*regexp.Regexp{}
	for k := api.TwigProg; k <= api.TwigFn; k++ {
		shapes[k] = regexp.MustCompile("^(?:" + bears()[k] + ")$")
	}
	try := func(kind api.TwigKind, kids ...api.TwigKind) {
		x := sample(kind)
		x.kids = nil
		letters := ""
		for _, k := range kids {
			x.kids = append(x.kids, sample(k))
			letters += letter(k)
		}
		if want := shapes[kind].MatchString(letters); May(hosted(x)) != want {
			t.Errorf("kind %d with kids %v: May is not %v", kind, kids, want)
		}
	}
	three := []api.TwigKind{api.TwigType, api.TwigLife, api.TwigBlock, api.TwigReturn, api.TwigUse, api.TwigNumber, api.TwigMember, api.TwigMain}
	for kind := api.TwigProg; kind <= api.TwigFn; kind++ {
		try(kind)
		for a := api.TwigProg; a <= api.TwigFn; a++ {
			try(kind, a)
			for b := api.TwigProg; b <= api.TwigFn; b++ {
				try(kind, a, b)
			}
		}
		for _, a := range three {
			for _, b := range three {
				for _, c := range three {
					try(kind, a, b, c)
				}
			}
		}
		try(kind, api.TwigUse, api.TwigBlock, api.TwigBlock, api.TwigBlock)
	}
}

// P2.1: each kind with Texts that it has, and that it does not have.
func TestTextsOfKinds(t *testing.T) {
	long := strings.Repeat("n", api.MaxWord)
	groups := map[string][]string{
		"none":  {""},
		"name":  {"x", "_", "Int", "x9", "T", long},
		"type":  {"x", "_", "Int", "x9", "T", long, "int", "fn", "tok", "hand", "arr"},
		"sign":  {"+", "-", "*", "<", "=="},
		"never": {long + "n", "9", "9x", "=", "+ ", " x", "x ", "x y", "x\n", "main", "null", "it", "len", "while", "{", ";", "é", "\x00", "++", "<=", "x;"},
	}
	var all []string
	for _, l := range groups {
		all = append(all, l...)
	}
	for k := api.TwigProg; k <= api.TwigFn; k++ {
		for _, s := range all {
			x := sample(k)
			x.text = s
			if want := slices.Contains(groups[textOf(k)], s); May(hosted(x)) != want {
				t.Errorf("kind %d with Text %q: May is not %v", k, s, want)
			}
			if !May(hosted(x)) {
				refused(t, "a Text", hosted(x))
			}
		}
	}
}

// P2.1: each kind with Ns that it has, and that it does not have.
func TestNsOfKinds(t *testing.T) {
	bounds := map[api.TwigKind][2]int64{
		api.TwigLife: {0, 3}, api.TwigEvent: {0, 1}, api.TwigPost: {-1, 1<<31 - 1}, api.TwigNumber: {0, 1<<31 - 1},
	}
	for k := api.TwigProg; k <= api.TwigFn; k++ {
		for _, n := range []int64{math.MinInt64, -1 << 32, -2, -1, 0, 1, 2, 3, 4, 1<<31 - 1, 1 << 31, 1 << 32, math.MaxInt64} {
			x := sample(k)
			x.n = n
			want := bounds[k][0] <= n && n <= bounds[k][1]
			if May(hosted(x)) != want {
				t.Errorf("kind %d with N %d: May is not %v", k, n, want)
			}
			if !want {
				refused(t, "an N", hosted(x))
			}
		}
	}
}

// nested wraps a term in something n times.
func nested(n int, x node, wrap func(node) node) node {
	for range n {
		x = wrap(x)
	}
	return x
}

// P2.1: a nest of MaxDepth, and one more. A term of main's log is in one block already.
func TestNest(t *testing.T) {
	const left = api.MaxDepth - 1
	a := use("a")
	for _, c := range []struct {
		what string
		each int // how many levels each wrap is
		wrap func(x node) node
	}{
		{"blocks of while", 1, nil},
		{"parentheses on the right", 1, func(x node) node { return op(num(1), "+", op(x, "+", num(1))) }},
		{"parentheses on the left", 1, func(x node) node { return op(op(x, "<", num(1)), "*", num(1)) }},
		{"parentheses ahead of a point", 1, func(x node) node { return dot(op(x, "+", num(1)), "f") }},
		{"parentheses ahead of a bracket", 1, func(x node) node { return index(op(x, "+", num(1)), num(1)) }},
		{"brackets", 1, func(x node) node { return index(use("g"), x) }},
		{"arr", 1, arr},
		{"len", 1, length},
		{"arr and parentheses", 2, func(x node) node { return arr(op(x, "*", num(1))) }},
		{"len and parentheses", 2, func(x node) node { return length(op(num(1), "<", x)) }},
		{"brackets and len", 2, func(x node) node { return index(use("g"), length(x)) }},
		{"parentheses and brackets", 2, func(x node) node { return index(use("g"), op(num(1), "*", op(num(1), "-", x))) }},
		{"fn", 1, func(x node) node { return fn(logOf(x)) }},
		{"fn ahead of a point, in parentheses", 2, func(x node) node { return dot(op(fn(logOf(x)), "+", num(1)), "f") }},
	} {
		for _, more := range []int{0, 1} {
			tree := inMain(nested(left+more, ret(), func(x node) node { return while(a, block(x)) }))
			if c.wrap != nil {
				x := a
				if left%c.each == 1 {
					x = arr(a) // the level that wraps of two leave over
				}
				tree = logged(nested(left/c.each+more, x, c.wrap))
			}
			if more > 0 {
				refused(t, c.what, tree)
			} else if !May(tree) || Print(tree) == "" {
				t.Errorf("%s: a nest of MaxDepth may not be", c.what)
			}
		}
	}
}

// P2.1: what is not nested: braces of classes and components, terms that go on from left to right.
func TestNotNested(t *testing.T) {
	wide := func(x node) api.Tree {
		return plant(prog(mk(api.TwigComp, "c", 0, use("l"), life(0, nested(api.MaxDepth-1, block(logOf(x)), func(b node) node {
			return block(while(use("a"), b))
		})))))
	}
	deepest := op(op(num(1), "+", num(2)), "<", op(dot(use("a"), "f"), "*", num(3)))
	if !May(wide(deepest)) {
		t.Error("a term without parentheses in a block of nest MaxDepth may not be")
	}
	for _, x := range []node{arr(num(1)), index(use("a"), num(1)), op(num(1), "-", op(num(1), "-", num(1))), fn()} {
		refused(t, "a nest of MaxDepth + 1", wide(x))
	}
	refused(t, "an if's blocks", plant(prog(mainOf(nested(api.MaxDepth, ret(), func(x node) node { return ifOf(num(1), block(), block(x)) })))))
	if x := nested(api.MaxDepth-1, ret(), func(x node) node { return ifOf(num(1), block(), block(x)) }); !May(inMain(x)) {
		t.Error("else's blocks of nest MaxDepth may not be")
	}
}

// chain is a term of n levels without any nest, made without deep calls.
func chain(n int, link api.Twig) api.Tree {
	t := logged(use("a"))
	t.Twigs = t.Twigs[:4]
	for i := range n {
		w := link
		w.Kids = []int{4 + i + 1}
		t.Twigs = append(t.Twigs, w)
	}
	t.Twigs = append(t.Twigs, api.Twig{Kind: api.TwigUse, Text: "a"})
	for i := n - 1; i >= 0 && link.Kind == api.TwigOp; i-- {
		w := &t.Twigs[4+i]
		w.Kids = append(w.Kids, len(t.Twigs))
		t.Twigs = append(t.Twigs, api.Twig{Kind: api.TwigIt})
	}
	return t
}

// P2.1, P2.2: many levels of twigs, none of nest.
func TestLongChains(t *testing.T) {
	const n = 100000
	for _, c := range []struct {
		link api.Twig
		more string
	}{
		{api.Twig{Kind: api.TwigDot, Text: "f"}, ".f"},
		{api.Twig{Kind: api.TwigOp, Text: "-"}, " - it"},
		{api.Twig{Kind: api.TwigOp, Text: "*"}, " * it"},
	} {
		x := chain(n, c.link)
		if s := Print(x); s != loggedText("a"+strings.Repeat(c.more, n)) {
			t.Errorf("a chain of %q is printed as %d bytes", c.more, len(s))
		}
		if l := Ups(x); len(l) != len(x.Twigs) || l[4] != 3 || l[n+4] != n+3 {
			t.Errorf("a chain of %q: wrong Ups", c.more)
		}
	}
	deep := chain(n, api.Twig{Kind: api.TwigArr})
	refused(t, "a chain of arr", deep)
}

// P2.1: rows of twigs that are no trees.
func TestNoTrees(t *testing.T) {
	good := func() api.Tree { return plant(prog(mk(api.TwigLooper, "l", 0), mainOf(set(use("a"), num(1)), ret()))) }
	if x := good(); !May(x) || !reflect.DeepEqual(Ups(x), []int{-1, 0, 0, 2, 3, 4, 4, 3}) {
		t.Fatalf("Ups: %v", Ups(good()))
	}
	refused(t, "no twigs", api.Tree{})
	refused(t, "an empty row", api.Tree{Twigs: []api.Twig{}})
	refused(t, "a twig of nothing", api.Tree{Twigs: []api.Twig{{}}})
	for _, k := range []api.TwigKind{0, -1, api.TwigFn + 1, math.MaxInt, math.MinInt} {
		refused(t, "a kind that is none", api.Tree{Twigs: []api.Twig{{Kind: k}}})
		refused(t, "a kind that is none, below", plant(prog(mk(k, "", 0))))
		refused(t, "a kind that is none, as a statement", inMain(mk(k, "", 0)))
	}
	for k := api.TwigLooper; k <= api.TwigFn; k++ {
		refused(t, "another root", plant(sample(k)))
	}
	for _, c := range []struct {
		what string
		at   int
		kids []int
	}{
		{"falling", 0, []int{2, 1}},
		{"twice", 0, []int{1, 1, 2}},
		{"a kid that is missing at the end", 0, []int{1}},
		{"a kid that is missing at the beginning", 0, []int{2}},
		{"no kids of the root", 0, nil},
		{"a kid of another", 0, []int{1, 2, 3}},
		{"the root itself", 0, []int{0, 1, 2}},
		{"below 0", 0, []int{-1, 1, 2}},
		{"beyond the end", 0, []int{1, 2, 8}},
		{"far beyond the end", 0, []int{1, 2, math.MaxInt}},
		{"far below 0", 0, []int{1, 2, math.MinInt}},
		{"ahead of its twig", 3, []int{1, 7}},
		{"its twig itself", 3, []int{3}},
		{"its twig's up", 3, []int{2, 7}},
		{"a kid's kid", 3, []int{4, 5, 7}},
		{"kids falling", 4, []int{6, 5}},
		{"a hole", 4, []int{6}},
		{"another's kid", 4, []int{5, 6, 7}},
		{"a kid behind the last", 7, []int{8}},
		{"kids of a name", 5, []int{6}},
	} {
		x := good()
		x.Twigs[c.at].Kids = c.kids
		refused(t, c.what, x)
	}
	for i := range len(good().Twigs) {
		x := good()
		x.Twigs = x.Twigs[:i]
		refused(t, "a row that is cut off", x)
		x = good()
		x.Twigs = append(x.Twigs, x.Twigs[i])
		refused(t, "a twig too much", x)
	}
}

// P2.1, P2.2, P2.3: nothing panics, and none of what is handed in is changed, whatever it is.
func TestAnyTrees(t *testing.T) {
	r := rand.New(rand.NewSource(2))
	texts := []string{"", "x", "+", "int", "main", "9"}
	for range 4000 {
		x := plant(example())
		for range 1 + r.Intn(3) {
			w := &x.Twigs[r.Intn(len(x.Twigs))]
			switch r.Intn(5) {
			case 0:
				w.Kind = api.TwigKind(r.Intn(40) - 1)
			case 1:
				w.Text = texts[r.Intn(len(texts))]
			case 2:
				w.N = int64(r.Intn(7) - 3)
			case 3:
				w.Kids = append(w.Kids, r.Intn(len(x.Twigs)+4)-2)
			case 4:
				if len(w.Kids) > 0 {
					w.Kids[r.Intn(len(w.Kids))] += r.Intn(3) - 1
				}
			}
		}
		was := cloned(x)
		may, text, ups := May(x), Print(x), Ups(x)
		if may != (text != "") || may != (len(ups) == len(x.Twigs)) {
			t.Fatalf("May %v, Print %q, Ups %v", may, text, ups)
		}
		for _, w := range x.Twigs {
			if b := Binds(w); (b > 0) != Term(w.Kind) {
				t.Fatalf("Binds %d of kind %d", b, w.Kind)
			}
		}
		if !Same(x, was) || !reflect.DeepEqual(x, was) {
			t.Fatal("what was handed in is changed")
		}
	}
}

func cloned(x api.Tree) api.Tree {
	y := api.Tree{Twigs: slices.Clone(x.Twigs)}
	for i := range y.Twigs {
		y.Twigs[i].Kids = slices.Clone(y.Twigs[i].Kids)
	}
	return y
}

// P2.3: two trees are the same, but for places, whether they may be or not.
func TestSame(t *testing.T) {
	bad := api.Tree{Twigs: []api.Twig{{Kind: -5, Text: "?", N: -9, Kids: []int{7, -7}}, {Kids: []int{0}}}}
	for _, x := range []api.Tree{{}, plant(prog()), plant(example()), bad} {
		y := cloned(x)
		for i := range y.Twigs {
			y.Twigs[i].Line, y.Twigs[i].Col = i+1, -3*i
		}
		if !Same(x, x) || !Same(x, y) || !Same(y, x) {
			t.Error("a tree is not the same with other places")
		}
		for i := range x.Twigs {
			for _, change := range []func(w *api.Twig){
				func(w *api.Twig) { w.Kind++ },
				func(w *api.Twig) { w.Text += "x" },
				func(w *api.Twig) { w.N++ },
				func(w *api.Twig) { w.N += 1 << 32 },
				func(w *api.Twig) { w.Kids = append(w.Kids, 1) },
			} {
				z := cloned(x)
				change(&z.Twigs[i])
				if Same(x, z) || Same(z, x) {
					t.Errorf("twig %d: a change is not told", i)
				}
			}
			if len(x.Twigs[i].Kids) > 0 {
				z := cloned(x)
				z.Twigs[i].Kids[0]++
				if Same(x, z) {
					t.Errorf("twig %d: another kid is not told", i)
				}
			}
			z := cloned(x)
			z.Twigs = z.Twigs[:i]
			if Same(x, z) || Same(z, x) {
				t.Error("a tree that is cut off is the same")
			}
		}
	}
	none := api.Tree{Twigs: []api.Twig{}}
	if !Same(none, api.Tree{}) {
		t.Error("two trees without twigs are not the same")
	}
	a := api.Tree{Twigs: []api.Twig{{Kids: []int{}}}}
	if !Same(a, api.Tree{Twigs: []api.Twig{{}}}) {
		t.Error("two twigs without kids are not the same")
	}
}

// P2.3: of each twig whose kid it is; the list is the caller's own.
func TestUps(t *testing.T) {
	if l := Ups(plant(prog())); !slices.Equal(l, []int{-1}) {
		t.Errorf("Ups: %v", l)
	}
	x := plant(example())
	l := Ups(x)
	if len(l) != len(x.Twigs) || l[0] != -1 {
		t.Fatalf("Ups: %v", l)
	}
	for i := 1; i < len(l); i++ {
		for j, w := range x.Twigs {
			if slices.Contains(w.Kids, i) != (l[i] == j) {
				t.Errorf("twig %d: Ups %d", i, l[i])
			}
		}
	}
	clear(l)
	if slices.Equal(l, Ups(x)) {
		t.Error("two answers share memory")
	}
}

// P2.3: which kinds are of terms, and how tightly twigs bind.
func TestTermBinds(t *testing.T) {
	binds := map[api.TwigKind]int{
		api.TwigNumber: 5, api.TwigNull: 5, api.TwigIt: 5, api.TwigUse: 5, api.TwigDot: 5, api.TwigIndex: 5,
		api.TwigNew: 5, api.TwigArr: 4, api.TwigLen: 4, api.TwigFn: 5, api.TwigOp: 2,
	}
	for k := api.TwigKind(-3); k <= api.TwigFn+3; k++ {
		if Term(k) != (binds[k] > 0) {
			t.Errorf("Term(%d)", k)
		}
		if b := Binds(api.Twig{Kind: k, Text: "+"}); b != binds[k] {
			t.Errorf("Binds of kind %d: %d, want %d", k, b, binds[k])
		}
	}
	for s, want := range map[string]int{"<": 1, "==": 1, "+": 2, "-": 2, "*": 3} {
		if b := Binds(api.Twig{Kind: api.TwigOp, Text: s}); b != want {
			t.Errorf("Binds of %s: %d, want %d", s, b, want)
		}
		if b := Binds(api.Twig{Kind: api.TwigUse, Text: s}); b != 5 {
			t.Errorf("Binds of a use with %s: %d", s, b)
		}
	}
	for _, k := range []api.TwigKind{math.MinInt, math.MaxInt} {
		if Term(k) || Binds(api.Twig{Kind: k}) != 0 {
			t.Errorf("kind %d is of terms", k)
		}
	}
}

// terms are all terms of some levels, of few leaves.
func terms(levels int) []node {
	l := []node{num(1), use("a")}
	if levels == 0 {
		return l
	}
	below := terms(levels - 1)
	for _, a := range below {
		l = append(l, dot(a, "a"), arr(a), length(a), fn(logOf(a)), fn(set(use("a"), a)))
		for _, b := range below {
			l = append(l, index(a, b))
			for _, s := range []string{"+", "-", "*", "<", "=="} {
				l = append(l, op(a, s, b))
			}
		}
	}
	return l
}

// programs are many programs that are unlike in little.
func programs() []node {
	l := []node{prog()}
	a, b := use("a"), use("b")
	stmts := []node{ret(), mk(api.TwigEnable, "a", 0), mk(api.TwigDisable, "a", 0)}
	for _, k := range []api.TwigKind{api.TwigCall, api.TwigCancel, api.TwigJoin, api.TwigLog} {
		stmts = append(stmts, mk(k, "", 0, a), mk(k, "", 0, b))
	}
	for _, n := range []int64{-1, 0, 1, 10} {
		stmts = append(stmts, mk(api.TwigPost, "a", n, a), mk(api.TwigPost, "b", n, a, b), mk(api.TwigPost, "a", n, a, b))
	}
	for _, x := range []node{a, b} {
		stmts = append(stmts, mk(api.TwigSpawn, "", 0, x), mk(api.TwigSpawn, "", 0, a, x), mk(api.TwigVar, "a", 0, typ("int"), x), mk(api.TwigVar, "a", 0, typ("b"), x), set(a, x), set(dot(x, "a"), a), set(index(a, x), a))
	}
	var blocks []node
	for _, s := range stmts {
		blocks = append(blocks, block(s))
	}
	blocks = append(blocks, block(), block(ret(), ret()), block(while(a, block(ret()))), block(while(a, block()), ret()))
	for _, x := range blocks {
		l = append(l, prog(mk(api.TwigMain, "", 0, x)), prog(mk(api.TwigFunc, "a", 0, x)), prog(mainOf(while(a, x))))
		for _, y := range blocks {
			l = append(l, prog(mainOf(ifOf(a, x, y))), prog(mk(api.TwigMain, "", 0, x), mk(api.TwigMain, "", 0, y)))
			l = append(l, prog(mk(api.TwigComp, "a", 0, b, life(2, x), life(0, y))))
		}
		for n := range int64(api.Lives) {
			l = append(l, prog(mk(api.TwigComp, "a", 0, a, life(n, x))), prog(mk(api.TwigEvent, "a", n%2, []node{a, b}[n/2], x)))
		}
	}
	for _, s := range []string{"a", "int", "fn", "tok", "hand", "arr"} {
		l = append(l, prog(mk(api.TwigGlobal, "a", 0, typ(s))), prog(mk(api.TwigClass, "a", 0, member("a", s))), prog(mk(api.TwigClass, "a", 0, member("b", "a"), member("a", s))))
	}
	return append(l, prog(mk(api.TwigLooper, "a", 0)), prog(mk(api.TwigClass, "a", 0)), prog(mk(api.TwigComp, "a", 0, a)))
}

// P2.4: of many trees that may be, no two are printed alike, but those that are the same.
func TestAlike(t *testing.T) {
	all := programs()
	for _, x := range terms(2) {
		all = append(all, prog(mainOf(logOf(x))))
	}
	seen := map[string]api.Tree{}
	for _, x := range all {
		y := plant(x)
		if !May(y) {
			t.Fatalf("it may not be: %v", x)
		}
		s := Print(y)
		if old, is := seen[s]; is && !Same(old, y) {
			t.Fatalf("two trees are printed alike:\n%s", s)
		}
		seen[s] = y
	}
}

// P2.2, P2.4: the printed text has the tokens that it should, and blanks alone between them, no more than needed.
func TestPrintedTokens(t *testing.T) {
	blank := regexp.MustCompile(`(?m) $|\S  |\n\n|^ *\n|[.(\[] | [;.\])\[]|\t|\r`)
	for _, x := range append(programs(), example()) {
		s := Print(plant(x))
		if m := blank.FindString(s); m != "" {
			t.Fatalf("blanks %q in:\n%s", m, s)
		}
		l, wrong := token.Scan([]byte(s))
		if len(wrong) > 0 {
			t.Fatalf("%v of:\n%s", wrong, s)
		}
		depth, column := 0, map[int]int{}
		for _, k := range l {
			if column[k.Line] == 0 {
				column[k.Line] = k.Col
				want := 1 + 2*depth
				if k.Text == "}" {
					want -= 2
				}
				if k.Col != want {
					t.Fatalf("line %d begins in column %d, want %d:\n%s", k.Line, k.Col, want, s)
				}
			}
			switch k.Text {
			case "{":
				depth++
			case "}":
				depth--
			}
		}
	}
}
