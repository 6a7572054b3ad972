package lower

import (
	"fmt"
	"reflect"
	"strconv"
	"strings"
	"testing"

	"detent/api"
	"detent/names"
	"detent/parse"
	"detent/types"
)

// beyond holds a text against a limit: it has nothing but ErrLimit, or it is a program.
func beyond(t *testing.T, what, text string, want bool) {
	t.Helper()
	p, wrong, err := Text([]byte(text))
	if len(wrong) > 0 {
		t.Errorf("%s: wrong %v", what, wrong)
	}
	if want && (err != api.ErrLimit || !reflect.DeepEqual(p, api.Prog{})) {
		t.Errorf("%s: %v, %d functions; want ErrLimit", what, err, len(p.Funcs))
	}
	if !want && (err != api.OK || len(p.Funcs) == 0) {
		t.Errorf("%s: %v, %d functions; want a program", what, err, len(p.Funcs))
	}
	if len(text) > api.MaxText {
		return
	}
	x, n, l := resolved(t, text)
	if q, e := Lower(x, n, l); e != err || !reflect.DeepEqual(p, q) {
		t.Errorf("%s: Lower %v, Text %v", what, e, err)
	}
}

// numbered repeats a form with numbers from 0 on in it.
func numbered(form string, n int) string {
	var b strings.Builder
	for i := range n {
		b.WriteString(strings.ReplaceAll(form, "@", strconv.Itoa(i)))
	}
	return b.String()
}

// P6.1: each limit at just so many, and at one more.
func TestLimits(t *testing.T) {
	const head = "looper a; "
	for _, c := range []struct {
		what string
		most int
		text func(n int) string
	}{
		{"loopers", api.MaxLoopers, func(n int) string { return numbered("looper l@; ", n) + "main { }" }},
		{"classes", api.MaxClasses, func(n int) string { return head + numbered("class C@ { } ", n) + "main { }" }},
		{"members", api.MaxFields, func(n int) string {
			return head + "class A { } class C { " + numbered("m@ int; ", n) + "} class B { } main { }"
		}},
		{"members of a class that stands first", api.MaxFields, func(n int) string {
			return head + "class C { " + numbered("m@ C; ", n) + "} class B { x int; } main { }"
		}},
		{"globals", api.MaxGlobals, func(n int) string { return head + numbered("var g@ int; ", n) + "main { }" }},
		{"components", api.MaxComps, func(n int) string { return head + numbered("comp c@ on a { } ", n) + "main { }" }},
		{"events", api.MaxEvents, func(n int) string { return head + numbered("event e@ on a on { } ", n) + "main { }" }},
		{"functions", api.MaxFuncs, func(n int) string { return head + numbered("fn f@ { } ", n-1) + "main { }" }},
		{"functions, closures among them", api.MaxFuncs, func(n int) string { return head + "main { " + numbered("call fn { }; ", n-1) + "}" }},
		{"functions of all kinds", api.MaxFuncs, func(n int) string {
			return head + numbered("comp c@ on a { create { } start { } stop { } destroy { } } ", 8) + numbered("event e@ on a off { } ", 8) + numbered("fn f@ { } ", n-42) + "main { call fn { }; }"
		}},
		{"registers of terms", api.MaxRegs, func(n int) string {
			return head + "main { log it" + strings.Repeat(" + 1", (n-1)/2) + "; " + numbered("var x@ int = @; ", (n-1)%2) + "}"
		}},
		{"registers of locals", api.MaxRegs, func(n int) string {
			return head + "var g int; main { var x int = 1; " + numbered("var x@ int = x; ", n-1) + "}"
		}},
		{"registers of posts and spawns", api.MaxRegs, func(n int) string {
			return head + "fn p { } main { var f fn = p; " + numbered("post a f; ", n/2) + numbered("spawn f; ", n-n/2-1) + "}"
		}},
		{"registers of cells", api.MaxRegs, func(n int) string {
			// Two of each local that is captured, and one of the closure.
			return head + "main { " + numbered("var x@ int = 1; ", (n-1)/2) + "var f fn = fn { " + numbered("x@ = it; ", (n-1)/2) + "}; " + numbered("var y@ int = 1; ", (n-1)%2) + "}"
		}},
		{"registers of another function than main", api.MaxRegs, func(n int) string {
			return head + "fn p { " + numbered("var x@ int = it; ", n) + "} main { }"
		}},
		{"instructions", api.MaxCode, func(n int) string { return head + "main { " + numbered("return; ", n-1) + "}" }},
		{"instructions of a closure", api.MaxCode, func(n int) string {
			return head + "main { call fn { " + numbered("return; ", n-1) + "}; }"
		}},
		{"instructions of jumps", api.MaxCode, func(n int) string {
			return head + "main { var x int = 1; while x { " + numbered("return; ", n-7) + "} if x { x = x; } }"
		}},
		{"sites", api.MaxSites, func(n int) string {
			return head + "event e on a on { } fn p { " + numbered("enable e; ", 500) + "} main { " + numbered("disable e; ", n-500) + "}"
		}},
		{"sites of many functions", api.MaxSites, func(n int) string {
			return head + "event e on a on { " + numbered("disable e; ", n-9*50) + "} " + numbered("fn p@ { "+strings.Repeat("enable e; ", 50)+"} ", 9) + "main { }"
		}},
		{"a post's delay", api.MaxDelay, func(n int) string {
			return fmt.Sprintf("%sfn p { } main { post a p after %d; }", head, n)
		}},
		{"an inner post's delay, that goes somewhere", api.MaxDelay, func(n int) string {
			return fmt.Sprintf("%svar t tok; fn p { if 0 { post a p after %d to t; } } main { }", head, n)
		}},
		{"a text's bytes", api.MaxText, func(n int) string {
			text := head + "main { } # "
			return text + strings.Repeat("x", n-len(text))
		}},
	} {
		beyond(t, fmt.Sprintf("%s: %d", c.what, c.most), c.text(c.most), false)
		beyond(t, fmt.Sprintf("%s: %d", c.what, c.most+1), c.text(c.most+1), true)
		if c.most < 1000 {
			beyond(t, fmt.Sprintf("%s: %d", c.what, c.most-1), c.text(c.most-1), false)
			beyond(t, fmt.Sprintf("%s: %d", c.what, c.most+100), c.text(c.most+100), true)
		}
	}
}

// P6.1: what is counted of each function, or each class, is counted of it alone.
func TestLimitsOfEach(t *testing.T) {
	beyond(t, "registers of two functions", "looper a; fn p { "+numbered("var x@ int = 1; ", 256)+"} main { "+numbered("var x@ int = 1; ", 256)+"}", false)
	beyond(t, "instructions of two functions", "looper a; fn p { "+numbered("return; ", 511)+"} main { "+numbered("return; ", 511)+"}", false)
	beyond(t, "members of two classes", "looper a; class C { "+numbered("m@ int; ", 8)+"} class D { "+numbered("m@ int; ", 8)+"} main { }", false)
	beyond(t, "all that may be declared", numbered("looper l@; ", 8)+numbered("class C@ { x int; } ", 16)+numbered("var g@ C0; ", 32)+numbered("comp c@ on l0 { create { } start { } stop { } destroy { } } ", 8)+numbered("event e@ on l0 off { } ", 8)+numbered("fn f@ { } ", 23)+"main { }", false)
	beyond(t, "the greatest number, which is no delay", "looper a; main { log 2147483647; }", false)
	beyond(t, "the greatest delay that is a number", "looper a; fn p { } main { post a p after 2147483647; }", true)
}

// P6.1: a text of more than MaxText bytes is beyond the limit whatever it is; of as many it is looked at.
func TestLongTexts(t *testing.T) {
	for _, c := range []struct{ head, fill string }{{"looper a; main { } ", " "}, {"", "!"}, {"main { x = 1 ", " "}, {"looper a; main { log x; } ", "\n"}, {"looper a; main { log null; } ", "#"}} {
		text := c.head + strings.Repeat(c.fill, api.MaxText-len(c.head))
		p, wrong, err := Text([]byte(text))
		if err != api.OK || (len(wrong) == 0) == (len(p.Funcs) == 0) {
			t.Errorf("%q and %q: %d functions, %d wrong, %v", c.head, c.fill, len(p.Funcs), len(wrong), err)
		}
		p, wrong, err = Text([]byte(text + c.fill))
		if err != api.ErrLimit || len(wrong) > 0 || !reflect.DeepEqual(p, api.Prog{}) {
			t.Errorf("%q and one more %q: %d functions, %d wrong, %v", c.head, c.fill, len(p.Funcs), len(wrong), err)
		}
	}
}

// chain tells a program that logs a point behind a point, and so on, of an object: so many points.
func chain(points int) string {
	return "looper a; class C { n C; i int; } var g C; main { log g" + strings.Repeat(".n", points-1) + ".i; }"
}

// P6.1: terms that are as deep as there may be registers, and deeper ones.
func TestDeepTerms(t *testing.T) {
	beyond(t, "255 points", chain(255), false)
	beyond(t, "256 points", chain(256), true)
	beyond(t, "256 points of a local", strings.Replace(chain(255), "log g", "var x C = g; log x", 1), false)
	beyond(t, "257 points of a local", strings.Replace(chain(256), "log g", "var x C = g; log x", 1), true)
	beyond(t, "many points", chain(32000), true)
	sum := func(n int) string { return "looper a; main { log 0" + strings.Repeat("+1", n) + "; }" }
	beyond(t, "127 sums", sum(127), false)
	beyond(t, "128 sums", sum(128), true)
	beyond(t, "many sums", sum(32000), true)
}

// P6.1: what is far beyond a limit ends, too, and needs no deep calls.
func TestHugeTrees(t *testing.T) {
	t.Parallel()
	tokens := func(l []api.Token, s ...string) []api.Token {
		for _, word := range s {
			kind := api.TokenWord
			switch {
			case strings.Contains("{};+.", word):
				kind = api.TokenMark
			case word == "7":
				kind = api.TokenNumber
			case len(word) == 1:
				kind = api.TokenName
			}
			l = append(l, api.Token{Kind: kind, Text: word, N: 7})
		}
		return l
	}
	for _, c := range []struct {
		first, again, last []string
		times              int
	}{
		{[]string{"log", "7"}, []string{"+", "7"}, []string{";"}, 1000000},
		{[]string{"log", "g"}, []string{".", "n"}, []string{".", "i", ";"}, 50000},
		{nil, []string{"return", ";"}, nil, 50000},
		{nil, []string{"if", "7", "{", "}"}, nil, 50000},
		{nil, []string{"call", "fn", "{", "}", ";"}, nil, 50000},
	} {
		l := tokens(nil, "looper", "a", ";", "class", "C", "{", "n", "C", ";", "i", "int", ";", "}", "var", "g", "C", ";", "main", "{")
		l = tokens(l, c.first...)
		for range c.times {
			l = tokens(l, c.again...)
		}
		l = tokens(tokens(l, c.last...), "}")
		x, wrong := parse.Tokens(l...)
		n, bad := names.Resolve(x)
		types, worse := types.Check(x, n)
		if len(wrong)+len(bad)+len(worse) > 0 {
			t.Fatal(c.again, wrong, bad, len(worse))
		}
		if p, err := Lower(x, n, types); err != api.ErrLimit || !reflect.DeepEqual(p, api.Prog{}) {
			t.Errorf("%v: %v, want ErrLimit", c.again, err)
		}
	}
}
