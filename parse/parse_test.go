package parse

import (
	"math"
	"reflect"
	"slices"
	"strconv"
	"strings"
	"testing"

	"detent/api"
	"detent/token"
	"detent/tree"
)

var kindNames = []string{"none", "prog", "looper", "class", "member", "type", "global", "func", "comp", "life", "event", "main", "block", "var", "set", "call", "cancel", "join", "log", "post", "spawn", "enable", "disable", "if", "while", "return", "number", "null", "it", "use", "dot", "index", "op", "new", "arr", "len", "fn"}

// dump tells a tree's twigs, one behind the other: kind, Text, N (if it is not 0), line:column, and the kids in parentheses.
func dump(t api.Tree) string {
	if len(t.Twigs) == 0 {
		return ""
	}
	var of func(i int) string
	of = func(i int) string {
		w := t.Twigs[i]
		s := kindNames[w.Kind]
		if w.Text != "" {
			s += " " + w.Text
		}
		if w.N != 0 {
			s += " " + strconv.FormatInt(w.N, 10)
		}
		s += " " + strconv.Itoa(w.Line) + ":" + strconv.Itoa(w.Col)
		if len(w.Kids) == 0 {
			return s
		}
		var kids []string
		for _, k := range w.Kids {
			kids = append(kids, of(k))
		}
		return s + " (" + strings.Join(kids, ", ") + ")"
	}
	return of(0)
}

// parsed parses a text with which nothing is wrong.
func parsed(t *testing.T, text string) api.Tree {
	t.Helper()
	x, wrong := Parse([]byte(text))
	if len(wrong) > 0 {
		t.Fatalf("Parse(%q): wrong %v", text, wrong)
	}
	if !tree.May(x) {
		t.Fatalf("Parse(%q): the tree may not be: %s", text, dump(x))
	}
	return x
}

// refused parses a text with which just this is wrong.
func refused(t *testing.T, text string, line, col int, err api.Errno) {
	t.Helper()
	x, wrong := Parse([]byte(text))
	if want := []api.Diag{{Line: line, Col: col, Err: err}}; !slices.Equal(wrong, want) {
		t.Errorf("Parse(%.200q): wrong %v, want %v", text, wrong, want)
	}
	if x.Twigs != nil {
		t.Errorf("Parse(%.200q): a tree beside what is wrong", text)
	}
}

// P3.1: each row of declarations, with its tree and the places of its twigs.
func TestDeclarations(t *testing.T) {
	for _, c := range []struct{ text, want string }{
		{"", "prog 1:1"},
		{" \n# nothing\n", "prog 1:1"},
		{"looper ui;", "prog 1:1 (looper ui 1:1)"},
		{"\n  looper ui ;looper\n io;", "prog 1:1 (looper ui 2:3, looper io 2:14)"},
		{"class C { }", "prog 1:1 (class C 1:1)"},
		{"class C { a int; f fn; t tok;\nh hand; l arr; c C; }", "prog 1:1 (class C 1:1 (member a 1:11 (type int 1:13), member f 1:18 (type fn 1:20), member t 1:24 (type tok 1:26), member h 2:1 (type hand 2:3), member l 2:9 (type arr 2:11), member c 2:16 (type C 2:18)))"},
		{"var g int;", "prog 1:1 (global g 1:1 (type int 1:7))"},
		{"var g G;", "prog 1:1 (global g 1:1 (type G 1:7))"},
		{"fn f { }", "prog 1:1 (func f 1:1 (block 1:6))"},
		{"fn f { return; }", "prog 1:1 (func f 1:1 (block 1:6 (return 1:8)))"},
		{"comp c on ui { }", "prog 1:1 (comp c 1:1 (use ui 1:11))"},
		{"comp c on ui { create { } start { } stop { }\n destroy { return; } create { } }", "prog 1:1 (comp c 1:1 (use ui 1:11, life 1:16 (block 1:23), life 1 1:27 (block 1:33), life 2 1:37 (block 1:42), life 3 2:2 (block 2:10 (return 2:12)), life 2:22 (block 2:29)))"},
		{"event e on ui on { }", "prog 1:1 (event e 1 1:1 (use ui 1:12, block 1:18))"},
		{"event e on ui off { return; }", "prog 1:1 (event e 1:1 (use ui 1:12, block 1:19 (return 1:21)))"},
		{"main { }", "prog 1:1 (main 1:1 (block 1:6))"},
		{"main{}main{}", "prog 1:1 (main 1:1 (block 1:5), main 1:7 (block 1:11))"},
	} {
		if got := dump(parsed(t, c.text)); got != c.want {
			t.Errorf("Parse(%q):\n%s, want\n%s", c.text, got, c.want)
		}
	}
}

// P3.1: each row of statements, with its tree and the places of its twigs.
func TestStatements(t *testing.T) {
	for _, c := range []struct{ text, want string }{
		{"", "block 1:6"},
		{"var x int = 1;", "block 1:6 (var x 1:8 (type int 1:14, number 1 1:20))"},
		{"var x C = new C;", "block 1:6 (var x 1:8 (type C 1:14, new C 1:18))"},
		{"call f;", "block 1:6 (call 1:8 (use f 1:13))"},
		{"cancel f;", "block 1:6 (cancel 1:8 (use f 1:15))"},
		{"join f;", "block 1:6 (join 1:8 (use f 1:13))"},
		{"log f;", "block 1:6 (log 1:8 (use f 1:12))"},
		{"post ui f;", "block 1:6 (post ui 1:8 (use f 1:16))"},
		{"post ui f after 0;", "block 1:6 (post ui 1:8 (use f 1:16))"},
		{"post ui f after 25;", "block 1:6 (post ui 25 1:8 (use f 1:16))"},
		{"post ui f after 2147483647 to k;", "block 1:6 (post ui 2147483647 1:8 (use f 1:16, use k 1:38))"},
		{"post ui f front;", "block 1:6 (post ui -1 1:8 (use f 1:16))"},
		{"post ui f front to a[0];", "block 1:6 (post ui -1 1:8 (use f 1:16, index 1:28 (use a 1:27, number 1:29)))"},
		{"post ui f to k;", "block 1:6 (post ui 1:8 (use f 1:16, use k 1:21))"},
		{"post ui (f) to (k.l);", "block 1:6 (post ui 1:8 (use f 1:17, dot l 1:25 (use k 1:24)))"},
		{"post ui fn { } to k;", "block 1:6 (post ui 1:8 (fn 1:16 (block 1:19), use k 1:26))"},
		{"spawn f;", "block 1:6 (spawn 1:8 (use f 1:14))"},
		{"spawn f to h;", "block 1:6 (spawn 1:8 (use f 1:14, use h 1:19))"},
		{"enable e;", "block 1:6 (enable e 1:8)"},
		{"disable e;", "block 1:6 (disable e 1:8)"},
		{"if a { }", "block 1:6 (if 1:8 (use a 1:11, block 1:13, block 1:8))"},
		{"if a { return; } return;", "block 1:6 (if 1:8 (use a 1:11, block 1:13 (return 1:15), block 1:8), return 1:25)"},
		{"if a { } else { }", "block 1:6 (if 1:8 (use a 1:11, block 1:13, block 1:22))"},
		{"if a { } else { return; }", "block 1:6 (if 1:8 (use a 1:11, block 1:13, block 1:22 (return 1:24)))"},
		{"if a { if b { } } else { if c { } else { } }", "block 1:6 (if 1:8 (use a 1:11, block 1:13 (if 1:15 (use b 1:18, block 1:20, block 1:15)), block 1:31 (if 1:33 (use c 1:36, block 1:38, block 1:47))))"},
		{"while a { return; }", "block 1:6 (while 1:8 (use a 1:14, block 1:16 (return 1:18)))"},
		{"return;", "block 1:6 (return 1:8)"},
		{"x = 1;", "block 1:6 (set 1:8 (use x 1:8, number 1 1:12))"},
		{"x.y = 1;", "block 1:6 (set 1:8 (dot y 1:9 (use x 1:8), number 1 1:14))"},
		{"x[y] = 1;", "block 1:6 (set 1:8 (index 1:9 (use x 1:8, use y 1:10), number 1 1:15))"},
		{"(x) = 1;", "block 1:6 (set 1:8 (use x 1:9, number 1 1:14))"},
		{"((x).y) = (1);", "block 1:6 (set 1:8 (dot y 1:12 (use x 1:10), number 1 1:19))"},
		{"new C.x = 1;", "block 1:6 (set 1:8 (dot x 1:13 (new C 1:8), number 1 1:18))"},
		{"5.x = 1;", "block 1:6 (set 1:8 (dot x 1:9 (number 5 1:8), number 1 1:14))"},
		{"null[it] = 1;", "block 1:6 (set 1:8 (index 1:12 (null 1:8, it 1:13), number 1 1:19))"},
		{"it.x = 1;", "block 1:6 (set 1:8 (dot x 1:10 (it 1:8), number 1 1:15))"},
		{"fn { }.x = 1;", "block 1:6 (set 1:8 (dot x 1:14 (fn 1:8 (block 1:11)), number 1 1:19))"},
		{"(a + b)[0] = 1;", "block 1:6 (set 1:8 (index 1:15 (op + 1:11 (use a 1:9, use b 1:13), number 1:16), number 1 1:21))"},
	} {
		want := "prog 1:1 (main 1:1 (" + c.want + "))"
		if got := dump(parsed(t, "main { "+c.text+" }")); got != want {
			t.Errorf("Parse of %q in main:\n%s, want\n%s", c.text, got, want)
		}
	}
}

// P3.1: each row of terms, with its tree and the places of its twigs.
func TestTerms(t *testing.T) {
	for _, c := range []struct{ text, want string }{
		{"0", "number 1:1"},
		{"0012", "number 12 1:1"},
		{"2147483647", "number 2147483647 1:1"},
		{"null", "null 1:1"},
		{"it", "it 1:1"},
		{"x", "use x 1:1"},
		{"new C", "new C 1:1"},
		{"fn { return; }", "fn 1:1 (block 1:4 (return 1:6))"},
		{"(x)", "use x 1:2"},
		{"(((x)))", "use x 1:4"},
		{"a.b", "dot b 1:2 (use a 1:1)"},
		{"a[b]", "index 1:2 (use a 1:1, use b 1:3)"},
		{"a.b.c", "dot c 1:4 (dot b 1:2 (use a 1:1))"},
		{"a[b][c]", "index 1:5 (index 1:2 (use a 1:1, use b 1:3), use c 1:6)"},
		{"a.b[c].d", "dot d 1:7 (index 1:4 (dot b 1:2 (use a 1:1), use c 1:5))"},
		{"new C.x", "dot x 1:6 (new C 1:1)"},
		{"fn { }[1]", "index 1:7 (fn 1:1 (block 1:4), number 1 1:8)"},
		{"1.x", "dot x 1:2 (number 1 1:1)"},
		{"a[b < c]", "index 1:2 (use a 1:1, op < 1:5 (use b 1:3, use c 1:7))"},
		{"arr 3", "arr 1:1 (number 3 1:5)"},
		{"len a", "len 1:1 (use a 1:5)"},
		{"arr len arr a", "arr 1:1 (len 1:5 (arr 1:9 (use a 1:13)))"},
		{"len a.b", "len 1:1 (dot b 1:6 (use a 1:5))"},
		{"len a[0]", "len 1:1 (index 1:6 (use a 1:5, number 1:7))"},
		{"(len a).b", "dot b 1:8 (len 1:2 (use a 1:6))"},
		{"len a * b", "op * 1:7 (len 1:1 (use a 1:5), use b 1:9)"},
		{"a * len b * c", "op * 1:11 (op * 1:3 (use a 1:1, len 1:5 (use b 1:9)), use c 1:13)"},
		{"len (a * b)", "len 1:1 (op * 1:8 (use a 1:6, use b 1:10))"},
		{"a + b", "op + 1:3 (use a 1:1, use b 1:5)"},
		{"a - b", "op - 1:3 (use a 1:1, use b 1:5)"},
		{"a * b", "op * 1:3 (use a 1:1, use b 1:5)"},
		{"a < b", "op < 1:3 (use a 1:1, use b 1:5)"},
		{"a == b", "op == 1:3 (use a 1:1, use b 1:6)"},
		{"a + b - c + d", "op + 1:11 (op - 1:7 (op + 1:3 (use a 1:1, use b 1:5), use c 1:9), use d 1:13)"},
		{"a - (b - c)", "op - 1:3 (use a 1:1, op - 1:8 (use b 1:6, use c 1:10))"},
		{"a * b * c", "op * 1:7 (op * 1:3 (use a 1:1, use b 1:5), use c 1:9)"},
		{"a * (b * c)", "op * 1:3 (use a 1:1, op * 1:8 (use b 1:6, use c 1:10))"},
		{"a + b * c", "op + 1:3 (use a 1:1, op * 1:7 (use b 1:5, use c 1:9))"},
		{"a * b + c", "op + 1:7 (op * 1:3 (use a 1:1, use b 1:5), use c 1:9)"},
		{"(a + b) * c", "op * 1:9 (op + 1:4 (use a 1:2, use b 1:6), use c 1:11)"},
		{"a + b < c * d", "op < 1:7 (op + 1:3 (use a 1:1, use b 1:5), op * 1:11 (use c 1:9, use d 1:13))"},
		{"a - b == c + d", "op == 1:7 (op - 1:3 (use a 1:1, use b 1:5), op + 1:12 (use c 1:10, use d 1:14))"},
		{"(a < b) < c", "op < 1:9 (op < 1:4 (use a 1:2, use b 1:6), use c 1:11)"},
		{"a == (b < c)", "op == 1:3 (use a 1:1, op < 1:9 (use b 1:7, use c 1:11))"},
		{"a==b", "op == 1:2 (use a 1:1, use b 1:4)"},
		{"a\n-\nb", "op - 2:1 (use a 1:1, use b 3:1)"},
	} {
		// The term begins the second line, and lines are counted from there on, so that its places are told as of it alone.
		want := "prog 1:1 (main 0:1 (block 0:6 (log 0:8 (" + c.want + "))))"
		x := parsed(t, "main { log\n"+c.text+"; }")
		for i := range x.Twigs[1:] {
			x.Twigs[i+1].Line--
		}
		if got := dump(x); got != want {
			t.Errorf("Parse of %q:\n%s, want\n%s", c.text, got, want)
		}
	}
}

// P3.1: wrong texts: the first token that can't stand there is told, whatever stands behind it. A '@' is put ahead of that token.
func TestWrongTexts(t *testing.T) {
	for _, text := range []string{
		// The chapter's examples; the End is told at 0, 0.
		"main { x = 1 @}", "main { 5 @= 1; }", "looper@",
		// Declarations.
		"@x", "@5", "@;", "@}", "@on", "@if", "@return;", "@int", "@int x;", "looper @;", "looper @fn;",
		"looper ui@", "looper ui @{", "looper ui @looper io;", "looper @5;", "looper @it;", "looper ui; @;",
		"class@", "class @{", "class C@", "class C @;", "class C {@", "class C { @; }", "class C { x@", "class C { x @; }", "class C { x @null; }",
		"class C { x @5; }", "class C { x int@", "class C { x int @}", "class C { x int @y int; }", "class C { @int x; }", "class C { x int; @return; }",
		"class C { x int; } @;", "class C { x @( } ",
		"var@", "var @=", "var @int;", "var x@", "var x @;", "var x @= 1;", "var x int@", "var x int @= 1;", "var x @main;", "var x C @C;",
		"fn@", "fn @{ }", "fn f@", "fn f @;", "fn f @( ) { }", "fn f {@", "fn f { } @}",
		"comp@", "comp @on ui { }", "comp c@", "comp c @{ }", "comp c @off ui { }", "comp c on@", "comp c on @{ }", "comp c on @on { }", "comp c on ui@",
		"comp c on ui @on { }", "comp c on ui {@", "comp c on ui { @return; }", "comp c on ui { @main { } }", "comp c on ui { create@",
		"comp c on ui { create @}", "comp c on ui { create { }@", "comp c on ui { create { } @; }", "comp c on ui { create @start { } }",
		"comp c on ui { } @{",
		"event@", "event @on ui on { }", "event e@", "event e @off ui on { }", "event e on@", "event e on @on { }", "event e on ui@", "event e on ui @{ }",
		"event e on ui @to { }", "event e on ui on@", "event e on ui on @on { }", "event e on ui off@", "event e on ui off @;",
		"main@", "main @x", "main @;", "main @( ) { }", "main {@", "main { }@}", "main { @{ } }", "main { @looper ui; }", "main { @main { } }",
		"main { @class C { } }",
		// Statements.
		"main { @; }", "main { @+", "main { @) }", "main { @] }", "main { @else { } }", "main { @to x; }", "main { @int x; }", "main { @arr 5 = 1; }",
		"main { @len x = 1; }", "main { @on }", "main { @= 1; }", "main { @. }", "main { @* }", "main { @after 5; }", "main { @front; }",
		"main { var@", "main { var @= 1; }", "main { var x @= 1; }", "main { var x int@; }", "main { var x int = @; }", "main { var x int = 1@",
		"main { var x int = 1 @} }", "main { var x int @== 1; }",
		"main { call @; }", "main { call f @g; }", "main { call@", "main { cancel @; }", "main { join @= }", "main { log @log 1; }",
		"main { log 1 @log 2; }", "main { log 1 @}", "main { log 1@", "main { log 1 @= 2; }",
		"main { post@", "main { post @; }", "main { post @(f) f; }", "main { post @5 f; }", "main { post ui @; }", "main { post ui @after 5; }",
		"main { post ui @front; }", "main { post ui @to x; }", "main { post ui f@", "main { post ui f @f; }", "main { post ui f after @x; }",
		"main { post ui f after @front; }", "main { post ui f after @- 5; }", "main { post ui f after 5 @front; }", "main { post ui f after 5 @+ 1; }",
		"main { post ui f front @after 5; }", "main { post ui f front @5; }", "main { post ui f to @; }", "main { post ui f to @arr; }",
		"main { post ui f to x @to y; }", "main { post ui f to x @front; }", "main { post ui f to x @after 5; }", "main { post ui f to x @= 1; }",
		"main { post ui f to x @+ 1; }",
		"main { post ui f to 5@; }", "main { post ui f to it @; }", "main { post ui f to (a + b) @; }", "main { post ui f to (5)@",
		"main { post ui f to fn { } @= }",
		"main { spawn@", "main { spawn @; }", "main { spawn @to h; }", "main { spawn f @after 5; }", "main { spawn f @front; }", "main { spawn f to @; }",
		"main { spawn f to null @; }", "main { spawn f to new C @; }", "main { spawn f to (h) @) }",
		"main { enable@", "main { enable @; }", "main { enable @(e); }", "main { enable e @.f; }", "main { enable e@", "main { disable @5; }",
		"main { disable e @disable e; }",
		"main { if@", "main { if @{ } }", "main { if a @; }", "main { if a @return; }", "main { if a { } @; }", "main { if a { } else @; }",
		"main { if a { } else @if b { } }", "main { if a { } else { } @else { } }", "main { if a { } else@", "main { if fn { } @; }", "main { if fn @; }",
		"main { if a @}",
		"main { while@", "main { while @{ } }", "main { while a @; }", "main { while a { } @else { } }", "main { while a { } @; }",
		"main { return@", "main { return @1; }", "main { return @} }",
		"main { x@", "main { x @; }", "main { x @x = 1; }", "main { x @+ 1; }", "main { x @== 1; }", "main { x @( 1 ); }", "main { x = @; }",
		"main { x = 1@", "main { x = y @= 1; }", "main { x = @= 1; }",
		"main { (x + y) @= 1; }", "main { (5) @= 1; }", "main { ((it)) @= 1; }", "main { (x @= 1; }", "main { (@) }", "main { it @= 1; }",
		"main { null @= 1; }", "main { new C @= 1; }", "main { fn { } @= 1; }", "main { fn { } @}", "main { fn { } @; }", "main { fn @f { } }",
		"main { (arr x) @= 1; }", "main { 5 @; }", "main { 5@", "main { (len x)@",
		"main { x. @5 = 1; }", "main { x. @. }", "main { x.y @5 }", "main { x. @len = 1; }", "main { x[@] = 1; }", "main { x[1 @= 1; }", "main { x[1@",
		"main { x[1 @) ] = 1; }", "main { x[1] @1", "main { x[1 @2] }",
		// Terms.
		"main { log a < b @< c; }", "main { log a < b @== c; }", "main { log a == b @== c; }", "main { log a < @< c; }", "main { log a + @; }",
		"main { log a + @+ b; }", "main { log @- 5; }", "main { log a * @* b; }", "main { log a * @- b; }", "main { log @* b; }", "main { log a @a; }",
		"main { log a @5; }", "main { log 5 @5; }", "main { log 5 @x; }",
		"main { log (@) ; }", "main { log (a @; }", "main { log (a @] ; }", "main { log (a) @) ; }", "main { log (a) @(b); }", "main { log a @] ; }",
		"main { log a @(b); }", "main { log a[b @) ; }", "main { log a[b@", "main { log @[b]; }", "main { log @.b; }", "main { log a. @; }",
		"main { log arr @; }", "main { log len @; }", "main { log arr len@", "main { log len @+ 1; }", "main { log arr @[5]; }", "main { log arr 5 @5; }",
		"main { log a @arr 5; }",
		"main { log new @5; }", "main { log new @; }", "main { log new@", "main { log new @new C; }", "main { log new C @C; }", "main { log new C @(1); }",
		"main { log new @int; }",
		"main { log fn @; }", "main { log fn @f { }; }", "main { log fn { } @}", "main { log fn { @; }; }", "main { log fn {@", "main { log @int; }",
		"main { log @on; }", "main { log @call f; }", "main { log @var; }", "main { log @}", "main { log @= 1; }", "main { log @== 1; }",
		"main { log null @null; }", "main { log it @it; }",
	} {
		at := strings.IndexByte(text, '@')
		if at < 0 {
			t.Fatalf("%q tells nothing", text)
		}
		head, tail := text[:at], text[at+1:]
		line, col := 1, at+1
		if strings.TrimSpace(tail) == "" {
			line, col = 0, 0
		}
		refused(t, head+tail, line, col, api.ErrSyntax)
		if col == 0 {
			refused(t, head+"\n# the end", 0, 0, api.ErrSyntax)
			continue
		}
		l, _ := token.Scan([]byte(tail))
		for _, behind := range []string{"", " }", " ; 5 ( [ {", " = = x arr arr", "\nmain { }"} {
			refused(t, head+l[0].Text+behind, line, col, api.ErrSyntax)
		}
	}
}

// P3.1: what layer 1 says of a text is told, all of it, and nothing else.
func TestWrongTokens(t *testing.T) {
	long := strings.Repeat("n", api.MaxWord+1)
	for _, text := range []string{
		"!", "main { log 1; } !", "main { log 2147483648; }", "looper " + long + ";", "; ) ! @\n" + long + " 99999999999 }", "main { log \"x\"; }", "main { x = 1 } $", strings.Repeat("(", 200) + "!", "main { " + strings.Repeat("fn { ", 99) + "\xff\xfe",
	} {
		_, want := token.Scan([]byte(text))
		if len(want) == 0 {
			t.Fatalf("nothing is wrong with %q", text)
		}
		x, wrong := Parse([]byte(text))
		if !slices.Equal(wrong, want) || x.Twigs != nil {
			t.Errorf("Parse(%.60q): %v, %v, want %v", text, x, wrong, want)
		}
	}
}

func placed(kind api.TokenKind, text string, n int64, line, col int) api.Token {
	return api.Token{Kind: kind, Text: text, N: n, Line: line, Col: col}
}

// P3.1: tokens that layer 1 did not make are of the kinds that they say; their places are as they are.
func TestOtherTokens(t *testing.T) {
	word := func(s string) api.Token { return placed(api.TokenWord, s, 0, -1, -2) }
	mark := func(s string) api.Token { return placed(api.TokenMark, s, 0, 3, 4) }
	name := func(s string) api.Token { return placed(api.TokenName, s, 0, 5, 6) }
	number := func(n int64) api.Token { return placed(api.TokenNumber, "many", n, 7, 8) }
	inMain := func(l ...api.Token) []api.Token {
		return slices.Concat([]api.Token{word("main"), mark("{")}, l, []api.Token{mark("}")})
	}
	for _, c := range []struct {
		tokens []api.Token
		want   string
	}{
		{nil, "prog 1:1"},
		{[]api.Token{word("looper"), name("fn"), mark(";")}, "prog 1:1 (looper fn -1:-2)"},
		{[]api.Token{word("looper"), name(""), mark(";")}, "prog 1:1 (looper -1:-2)"},
		{[]api.Token{word("looper"), name("two words"), mark(";")}, "prog 1:1 (looper two words -1:-2)"},
		{[]api.Token{word("var"), name("9"), name("int"), mark(";")}, "prog 1:1 (global 9 -1:-2 (type int 5:6))"},
		{[]api.Token{word("var"), name(";"), name(";"), mark(";")}, "prog 1:1 (global ; -1:-2 (type ; 5:6))"},
		{inMain(word("log"), number(-7), mark(";")), "prog 1:1 (main -1:-2 (block 3:4 (log -1:-2 (number -7 7:8))))"},
		{inMain(word("log"), name("("), mark("<"), name(")"), mark(";")), "prog 1:1 (main -1:-2 (block 3:4 (log -1:-2 (op < 3:4 (use ( 5:6, use ) 5:6)))))"},
		{inMain(word("post"), name("ui"), name("it"), word("after"), number(math.MinInt64), mark(";")), "prog 1:1 (main -1:-2 (block 3:4 (post ui -9223372036854775808 -1:-2 (use it 5:6))))"},
	} {
		x, wrong := Tokens(c.tokens...)
		if got := dump(x); got != c.want || len(wrong) > 0 {
			t.Errorf("Tokens(%v): %s, %v, want %s", c.tokens, got, wrong, c.want)
		}
	}
	for _, k := range []api.Token{
		{}, {Line: 9, Col: 9}, {Kind: -1, Text: "main"}, {Kind: 5, Text: "x", Line: 1}, {Kind: 99, Text: "5", N: 5, Col: 1}, {Text: "looper", Line: 2, Col: 2},
		placed(api.TokenMark, "looper", 0, 9, 9), placed(api.TokenName, "looper", 0, 9, 9), placed(api.TokenNumber, "looper", 0, 9, 9), placed(api.TokenWord, "loop", 0, 9, 9), placed(api.TokenWord, "", 0, 9, 9), placed(api.TokenMark, "", 0, 9, 9),
	} {
		want := []api.Diag{{Line: k.Line, Col: k.Col, Err: api.ErrSyntax}}
		for _, l := range [][]api.Token{{k}, {k, word("main"), mark("{"), mark("}")}, {word("main"), mark("{"), mark("}"), k}} {
			if x, wrong := Tokens(l...); !slices.Equal(wrong, want) || x.Twigs != nil {
				t.Errorf("Tokens(%v): %v, %v, want %v", l, x, wrong, want)
			}
		}
	}
	for _, l := range [][]api.Token{
		inMain(word("log"), number(1), placed(api.TokenWord, ";", 0, 9, 9)),
		inMain(word("log"), placed(api.TokenWord, "(", 0, 9, 9)),
		inMain(placed(api.TokenMark, "return", 0, 9, 9), mark(";")),
		inMain(name("x"), placed(api.TokenWord, "=", 0, 9, 9), number(1), mark(";")),
		inMain(word("log"), placed(api.TokenMark, "null", 0, 9, 9), mark(";")),
		inMain(word("log"), placed(api.TokenWord, "x", 0, 9, 9), mark(";")),
		inMain(word("log"), placed(api.TokenMark, "5", 5, 9, 9), mark(";")),
		{word("var"), name("x"), placed(api.TokenMark, "int", 0, 9, 9), mark(";")},
		{word("main"), placed(api.TokenName, "{", 0, 9, 9), mark("}")},
		{word("event"), name("e"), word("on"), name("l"), placed(api.TokenName, "on", 0, 9, 9), mark("{"), mark("}")},
	} {
		want := []api.Diag{{Line: 9, Col: 9, Err: api.ErrSyntax}}
		if x, wrong := Tokens(l...); !slices.Equal(wrong, want) || x.Twigs != nil {
			t.Errorf("Tokens(%v): %v, %v, want %v", l, x, wrong, want)
		}
	}
}

// P3.1: a text's tokens, and the text, have one answer.
func TestParseIsOfTokens(t *testing.T) {
	for _, text := range []string{"", "looper", "looper ui;", "main { x = 1 }", "main { log (1 + 2) * x; }"} {
		l, _ := token.Scan([]byte(text))
		a, wrongA := Parse([]byte(text))
		b, wrongB := Tokens(l...)
		if !reflect.DeepEqual(a, b) || !slices.Equal(wrongA, wrongB) {
			t.Errorf("%q: %v, %v, but of its tokens %v, %v", text, a, wrongA, b, wrongB)
		}
	}
}

// P3.1: what is handed in is not changed, and what is answered shares no memory with it, nor do two lists of it.
func TestKeepsApart(t *testing.T) {
	const text = "looper ui; class C { a int; b C; } comp c on ui { create { } stop { } } main { log a + b * c; if a { } post ui f to x; }"
	b := []byte(text)
	x := parsed(t, text)
	y, _ := Parse(b)
	if string(b) != text {
		t.Error("the text was changed")
	}
	clear(b)
	if !reflect.DeepEqual(x, y) {
		t.Error("the tree changes with the text")
	}
	l, _ := token.Scan([]byte(text))
	kept := slices.Clone(l)
	y, _ = Tokens(l...)
	if !slices.Equal(l, kept) {
		t.Error("the tokens were changed")
	}
	clear(l)
	if !reflect.DeepEqual(x, y) {
		t.Error("the tree changes with the tokens")
	}
	for i := range y.Twigs {
		z, _ := Parse([]byte(text))
		room := z.Twigs[i].Kids
		clear(room[:cap(room)])
		z.Twigs[i].Kids = slices.Clone(x.Twigs[i].Kids)
		if !reflect.DeepEqual(x, z) {
			t.Fatalf("the kids of twig %d share memory with others", i)
		}
	}
}

// P3.1: long sums, products, rows of points and of brackets are as deep as they are long: that is no matter, and no nest.
func TestLongChains(t *testing.T) {
	const n = 100000
	for _, c := range []struct {
		part string
		kind api.TwigKind
		kids int
	}{
		{" + a", api.TwigOp, 2}, {" - a", api.TwigOp, 2}, {" * a", api.TwigOp, 2}, {".a", api.TwigDot, 1}, {"[a]", api.TwigIndex, 2},
	} {
		x, wrong := Parse([]byte("main { log a" + strings.Repeat(c.part, n) + "; }"))
		if len(wrong) > 0 || len(x.Twigs) != 5+n*c.kids {
			t.Fatalf("%q, %d times: %v, %d twigs", c.part, n, wrong, len(x.Twigs))
		}
		for i := range n {
			w := x.Twigs[4+i]
			if w.Kind != c.kind || len(w.Kids) != c.kids || w.Kids[0] != 5+i || c.kids == 2 && w.Kids[1] != 4+2*n-i {
				t.Fatalf("%q, %d times: twig %d is %v", c.part, n, 4+i, w)
			}
		}
	}
	for _, part := range []string{"log 1; ", "if a { } ", "log arr a; ", "log (a); ", "log a[a]; ", "log fn { }; "} {
		if _, wrong := Parse([]byte("main { " + strings.Repeat(part, n) + "}")); len(wrong) > 0 {
			t.Errorf("%q, %d times: %v", part, n, wrong)
		}
	}
}
