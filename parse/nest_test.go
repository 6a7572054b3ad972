package parse

import (
	"math/rand"
	"strings"
	"testing"

	"detent/api"
	"detent/tree"
)

// hull is a nest around a Unary, and is one itself. A '@' is put ahead of each token that is one nest more, a '!' where that nest ends.
type hull struct{ open, shut string }

func hulls() []hull {
	return []hull{
		{"@(", ")!"},
		{"a@[", "]!"},
		{"@arr ", "!"},
		{"@len ", "!"},
		{"fn @{ log ", "; }!"},
		{"fn @{ x = ", "; return; }!"},
		{"fn @{ if ", " @{ }! }!"},
		{"fn @{ while ", " @{ }! }!"},
		{"fn @{ if a @{ log ", "; }! }!"},
		{"fn @{ if a @{ }! else @{ call ", "; }! return; }!"},
		{"fn @{ while a @{ join ", "; }! return; }!"},
		{"fn @{ post ui ", " after 5 to x; }!"},
		{"fn @{ spawn f to a@[", "]!; }!"},
		{"fn @{ var x arr = ", "; }!"},
		{"@(@(a)! + @(b * ", ")!)!"},
		{"@(@arr a! * @len @(@arr ", "!)!!)!"},
		{"@(@arr a@[0]!.b! + @len @len a!! < @(", ")!)!"},
		{"@(fn @{ log @(a)!@[0]!; }!.x@[@arr @len 0!!]! - @(", ")!@[@(1)!]! * @arr a!)!"},
	}
}

// unmarked tells a text without its marks, the place of the first token that is one nest too many (-1: none is), and how deep it is.
func unmarked(text string) (plain string, told, most int) {
	var b strings.Builder
	nest := 0
	told = -1
	for _, c := range []byte(text) {
		switch c {
		case '@':
			nest++
			most = max(most, nest)
			if nest > api.MaxDepth && told < 0 {
				told = b.Len()
			}
		case '!':
			nest--
		default:
			b.WriteByte(c)
		}
	}
	return b.String(), told, most
}

// nested holds what is told of a marked text against its marks.
func nested(t *testing.T, text string) {
	t.Helper()
	plain, told, _ := unmarked(text)
	if told < 0 {
		parsed(t, plain)
		return
	}
	refused(t, plain, 1, told+1, api.ErrDepth)
}

func inHulls(n int, h hull, text string) string {
	return strings.Repeat(h.open, n) + text + strings.Repeat(h.shut, n)
}

func logged(text string) string {
	return "main @{ log " + text + "; }!"
}

// P3.1: a nest of MaxDepth, and one more: by each hull, in each other one.
func TestNests(t *testing.T) {
	edges := map[int]int{}
	for _, outer := range hulls() {
		for n := range api.MaxDepth + 2 {
			for _, inner := range append(hulls(), hull{}) {
				text := logged(inHulls(n, outer, inner.open+"x"+inner.shut))
				if _, _, most := unmarked(text); api.MaxDepth-2 <= most && most <= api.MaxDepth+2 {
					edges[most]++
					nested(t, text)
				}
			}
		}
	}
	if edges[api.MaxDepth] < 100 || edges[api.MaxDepth+1] < 100 {
		t.Errorf("the edge is hardly reached: %v", edges)
	}
}

// P3.1: nests of all hulls, one in the other.
func TestMixedNests(t *testing.T) {
	r := rand.New(rand.NewSource(4))
	all := hulls()
	for range 3000 {
		text := "x"
		for most, depth := 0, api.MaxDepth-3+r.Intn(6); most < depth; _, _, most = unmarked(text) {
			h := all[r.Intn(len(all))]
			text = h.open + text + h.shut
		}
		nested(t, logged(text))
	}
}

// P3.1: a nest is over where it ends, so any number of them may stand side by side.
func TestNestsSideBySide(t *testing.T) {
	for _, h := range hulls() {
		_, _, most := unmarked(h.open + h.shut)
		side := h.open + "x" + h.shut
		for n := api.MaxDepth - most - 2; n <= api.MaxDepth-most; n++ {
			nested(t, logged(inHulls(n, hull{"@(", ")!"}, side+strings.Repeat(" * @("+side+")!", 99))))
			nested(t, logged(inHulls(n, hull{"fn @{ log ", "; }!"}, side+"; log "+side+"; log "+side)))
		}
	}
}

// P3.1: the blocks of all declarations are nests; braces of classes and components, and the type arr, are none.
func TestNestsOfDeclarations(t *testing.T) {
	for _, d := range []hull{
		{"fn f ", ""}, {"main ", ""}, {"event e on ui off ", ""}, {"event e on ui on ", ""},
		{"comp c on ui { create ", " }"}, {"comp c on ui { create @{ }! start ", " stop @{ }! }"}, {"comp c on ui { stop ", " destroy @{ }! }"}, {"comp c on ui { destroy ", " }"},
	} {
		for n := api.MaxDepth - 2; n <= api.MaxDepth; n++ {
			nested(t, d.open+inHulls(n, hull{"@{ while a ", "}!"}, "@{ }!")+d.shut)
			nested(t, d.open+inHulls(n, hull{"@{ if a ", "}!"}, "@{ var x arr = null; }!")+d.shut)
			nested(t, d.open+inHulls(n, hull{"@{ if a @{ }! else ", "}!"}, "@{ }!")+d.shut)
		}
	}
	for _, text := range []string{"class C { a arr; }", "class C { }", "var a arr;", "comp c on ui { }", "comp c on ui { create { } }", "main { var a arr = arr 1; }"} {
		parsed(t, strings.Repeat(text, api.MaxDepth+1))
	}
	parsed(t, "class C { "+strings.Repeat("a arr; ", api.MaxDepth+1)+"}")
	parsed(t, "main { "+strings.Repeat("var a arr = null; ", api.MaxDepth+1)+"}")
}

// P3.1: ErrDepth is told where it stands ahead of the first token that can't stand there, else that one is.
func TestDepthOrSyntax(t *testing.T) {
	const n = api.MaxDepth
	open := "main { log " + strings.Repeat("(", n-1)
	col := len(open) + 1
	for _, behind := range []string{"", "(", ")", "; }", "= = =", "5 5", "main"} {
		refused(t, open+"("+behind, 1, col, api.ErrDepth)
		refused(t, open+"arr "+behind, 1, col, api.ErrDepth)
		refused(t, open+"len "+behind, 1, col, api.ErrDepth)
		refused(t, open+"fn {"+behind, 1, col+3, api.ErrDepth)
		refused(t, open+"a["+behind, 1, col+1, api.ErrDepth)
	}
	// These would be one nest too many, but can't stand there in the first place.
	for _, tail := range []string{"a@(", "a @{", "@{", "@[", "a @arr", "a @len", "5 @(", "new @(", "fn @("} {
		at := strings.IndexByte(tail, '@')
		refused(t, open+strings.Replace(tail, "@", "", 1), 1, col+at, api.ErrSyntax)
	}
	refused(t, open+"+(", 1, col, api.ErrSyntax)
	refused(t, open, 0, 0, api.ErrSyntax)
	refused(t, "main { log = "+strings.Repeat("(", 2*n), 1, 12, api.ErrSyntax)
	refused(t, "x"+strings.Repeat("{", 2*n), 1, 1, api.ErrSyntax)
	blocks := "main " + strings.Repeat("{ while a ", n)
	refused(t, blocks, 0, 0, api.ErrSyntax)
	refused(t, blocks+"; {", 1, len(blocks)+1, api.ErrSyntax)
	refused(t, blocks+"{ ;", 1, len(blocks)+1, api.ErrDepth)
}

// P3.2: what is parsed may be, at the edge of MaxDepth, too, and its text is parsed to the same tree.
func TestDeepTrees(t *testing.T) {
	for _, h := range hulls() {
		for n := range api.MaxDepth {
			plain, told, _ := unmarked(logged(inHulls(n, h, "x")))
			if told >= 0 {
				break
			}
			x := parsed(t, plain)
			if again := parsed(t, tree.Print(x)); !tree.Same(x, again) {
				t.Fatalf("Parse(%q): another tree than that of %q", tree.Print(x), plain)
			}
		}
	}
}
