package names

import (
	"reflect"
	"slices"
	"strconv"
	"strings"
	"testing"

	"detent/api"
	"detent/parse"
)

// parsed parses a text that is one.
func parsed(t *testing.T, text string) api.Tree {
	t.Helper()
	x, wrong := parse.Parse([]byte(text))
	if len(wrong) > 0 {
		t.Fatalf("Parse(%q): %v", text, wrong)
	}
	return x
}

// resolved resolves a text with whose names nothing is wrong.
func resolved(t *testing.T, text string) (api.Tree, api.Names) {
	t.Helper()
	x := parsed(t, text)
	n, wrong := Resolve(x)
	if len(wrong) > 0 {
		t.Fatalf("Resolve of %q: wrong %v", text, wrong)
	}
	if len(n.Means) != len(x.Twigs) || len(n.Owners) != len(x.Twigs) {
		t.Fatalf("Resolve of %q: %d means, %d owners, %d twigs", text, len(n.Means), len(n.Owners), len(x.Twigs))
	}
	return x, n
}

// place tells a twig by its Text, line and column.
func place(x api.Tree, i int) string {
	w := x.Twigs[i]
	return w.Text + "@" + strconv.Itoa(w.Line) + ":" + strconv.Itoa(w.Col)
}

// meant tells, in the tree's order, each twig of which something is meant, and what; of those from a line on.
func meant(x api.Tree, n api.Names, line int) string {
	kinds := []string{"none", "local", "global", "func", "looper", "class", "event"}
	var l []string
	for i, m := range n.Means {
		if m == (api.Mean{}) || x.Twigs[i].Line < line {
			continue
		}
		s := place(x, i) + " " + kinds[m.Kind] + " "
		if m.Kind == api.MeanLocal {
			s += place(x, m.N)
		} else {
			s += strconv.Itoa(m.N)
		}
		l = append(l, s)
	}
	return strings.Join(l, ", ")
}

// functions tells the functions, each with the one around it, its place, and what it captures.
func functions(x api.Tree, n api.Names) string {
	var l []string
	for _, f := range n.Funcs {
		s := f.Name + place(x, f.Twig)[len(x.Twigs[f.Twig].Text):]
		if f.Up >= 0 {
			s += " in " + n.Funcs[f.Up].Name
		}
		for _, v := range f.Captures {
			s += " " + place(x, v)
		}
		l = append(l, s)
	}
	return strings.Join(l, ", ")
}

// P4.1: what each kind of twig means, its kind and its number.
func TestWhatIsMeant(t *testing.T) {
	// Two of each, so that numbers are told apart; and each kind is numbered on its own.
	declared := "looper a; looper b; class C { } class D { } var g int; var h D; fn p { } fn q { } comp m on b { } event d on a on { } event e on b off { }\n"
	for _, c := range []struct{ statement, want string }{
		{"", ""},
		{"var x int = 1;", ""},
		{"var x fn = null; var y tok = it;", ""},
		{"var x hand = null; var y arr = arr 1;", ""},
		{"var x C = null; var y D = x;", "C@2:14 class 0, D@2:30 class 1, x@2:34 local x@2:8"},
		{"log g; log h;", "g@2:12 global 0, h@2:19 global 1"},
		{"call p; call q;", "p@2:13 func 0, q@2:21 func 1"},
		{"post a p; post b q;", "a@2:8 looper 0, p@2:15 func 0, b@2:18 looper 1, q@2:25 func 1"},
		{"post a p front to g; post b q after 3 to h;", "a@2:8 looper 0, p@2:15 func 0, g@2:26 global 0, b@2:29 looper 1, q@2:36 func 1, h@2:49 global 1"},
		{"spawn p; spawn q to h;", "p@2:14 func 0, q@2:23 func 1, h@2:28 global 1"},
		{"enable d; enable e;", "d@2:8 event 0, e@2:18 event 1"},
		{"disable d; disable e;", "d@2:8 event 0, e@2:19 event 1"},
		{"log new C; log new D;", "C@2:12 class 0, D@2:23 class 1"},
		{"g = h; h = g;", "g@2:8 global 0, h@2:12 global 1, h@2:15 global 1, g@2:19 global 0"},
		{"p = q;", "p@2:8 func 0, q@2:12 func 1"},
		{"g.g[h] = h.p.q;", "g@2:8 global 0, h@2:12 global 1, h@2:17 global 1"},
		{"log g + h * p; log arr g; log len h; log (g == h) < q;", "g@2:12 global 0, h@2:16 global 1, p@2:20 func 0, g@2:31 global 0, h@2:42 global 1, g@2:50 global 0, h@2:55 global 1, q@2:60 func 1"},
		{"cancel g; join h;", "g@2:15 global 0, h@2:23 global 1"},
		{"if g { log h; } else { log g; } while h { log p; }", "g@2:11 global 0, h@2:19 global 1, g@2:35 global 0, h@2:46 global 1, p@2:54 func 0"},
		{"log null; log it; log 5; return;", ""},
	} {
		x, n := resolved(t, declared+"main { "+c.statement+" }")
		if got := meant(x, n, 2); got != c.want {
			t.Errorf("%q: %s, want %s", c.statement, got, c.want)
		}
	}
}

// P4.1: declarations are known ahead of where they stand, too, and their twigs are told by kinds, as they stand.
func TestDeclarations(t *testing.T) {
	x, n := resolved(t, "main { post b p; enable d; enable e; log h; var y C = new D; call q; post a r; }\nvar g C; class C { x D; y int; } event e on b on { log g; } comp m on a { } event d on a off { }\nlooper b; class D { } fn p { } var h int; fn q { } comp k on b { stop { call p; } } looper a; fn r { call r; }")
	want := "b@1:8 looper 0, p@1:15 func 3, d@1:18 event 1, e@1:28 event 0, h@1:42 global 1, C@1:51 class 0, D@1:55 class 1, q@1:67 func 4, a@1:70 looper 1, r@1:77 func 6, " +
		"C@2:7 class 0, D@2:22 class 1, b@2:45 looper 0, g@2:56 global 0, a@2:71 looper 1, a@2:88 looper 1, " +
		"b@3:62 looper 0, p@3:78 func 3, r@3:107 func 6"
	if got := meant(x, n, 1); got != want {
		t.Errorf("%s, want\n%s", got, want)
	}
	for _, c := range []struct {
		what string
		got  []int
		want string
	}{
		{"loopers", n.Loopers, "b@3:1 a@3:85"},
		{"classes", n.Classes, "C@2:10 D@3:11"},
		{"globals", n.Globals, "g@2:1 h@3:32"},
		{"components", n.Comps, "m@2:61 k@3:52"},
		{"events", n.Events, "e@2:34 d@2:77"},
	} {
		var l []string
		for _, i := range c.got {
			l = append(l, place(x, i))
		}
		if got := strings.Join(l, " "); got != c.want {
			t.Errorf("%s: %s, want %s", c.what, got, c.want)
		}
	}
	if want := "main@1:1, e@2:34, d@2:77, p@3:23, q@3:43, k.stop@3:66, r@3:95"; functions(x, n) != want || n.Main != 0 {
		t.Errorf("functions: %s, want %s; main: %d", functions(x, n), want, n.Main)
	}
}

// P4.1: the functions, in the tree's order, with their names, and the functions around them.
func TestFunctions(t *testing.T) {
	for _, c := range []struct {
		text string
		main int
		want string
	}{
		{"looper a; main { }", 0, "main@1:11"},
		{"looper a; fn f { } main { } fn g { }", 1, "f@1:11, main@1:20, g@1:29"},
		{"looper a; comp c on a { destroy { } create { } stop { } start { } } main { }", 4, "c.destroy@1:25, c.create@1:37, c.stop@1:48, c.start@1:57, main@1:69"},
		{"looper a; comp c on a { start { } } comp d on a { start { } } main { }", 2, "c.start@1:25, d.start@1:51, main@1:63"},
		{"looper a; event e on a on { } event f on a off { } main { }", 2, "e@1:11, f@1:31, main@1:52"},
		{"looper a; main { log fn { }; }", 0, "main@1:11, main.1@1:22 in main"},
		{"looper a; main { log fn { call fn { }; }; if fn { } { log fn { }; } else { var x fn = fn { while it { log fn { }; } }; } }", 0,
			"main@1:11, main.1@1:22 in main, main.2@1:32 in main.1, main.3@1:46 in main, main.4@1:59 in main, main.5@1:87 in main, main.6@1:107 in main.5"},
		{"looper a; fn f { log fn { } == fn { }; } main { log fn { }; } event e on a on { log fn { }; log fn { }; } comp c on a { create { log fn { log fn { }; }; } stop { log fn { }; } }", 3,
			"f@1:11, f.1@1:22 in f, f.2@1:32 in f, main@1:42, main.1@1:53 in main, e@1:63, e.1@1:85 in e, e.2@1:97 in e, c.create@1:121, c.create.1@1:134 in c.create, c.create.2@1:143 in c.create.1, c.stop@1:156, c.stop.1@1:167 in c.stop"},
	} {
		x, n := resolved(t, c.text)
		if got := functions(x, n); got != c.want || n.Main != c.main {
			t.Errorf("%q: %s (main: %d), want %s", c.text, got, n.Main, c.want)
		}
	}
}

// P4.1: each twig's function: a function's own twig stands in the one around it, and so does an event's looper.
func TestOwners(t *testing.T) {
	x, n := resolved(t, "looper a; class C { x int; } var g C; fn f { log 1; } comp c on a { stop { return; } } event e on a on { log fn { log it; }; } main { var x int = 5 + 6; if x { log fn { log fn { x = 7; }; }; } }")
	want := "prog -1, looper -1, class -1, member -1, type -1, global -1, type -1, func -1, block 0, log 0, number 0, " +
		"comp -1, use -1, life -1, block 1, return 1, event -1, use -1, block 2, log 2, fn 2, block 3, log 3, it 3, " +
		"main -1, block 4, var 4, type 4, op 4, number 4, number 4, if 4, use 4, block 4, log 4, fn 4, block 5, log 5, fn 5, block 6, set 6, use 6, number 6, block 4"
	kinds := []string{"none", "prog", "looper", "class", "member", "type", "global", "func", "comp", "life", "event", "main", "block", "var", "set", "call", "cancel", "join", "log", "post", "spawn", "enable", "disable", "if", "while", "return", "number", "null", "it", "use", "dot", "index", "op", "new", "arr", "len", "fn"}
	var l []string
	for i, w := range x.Twigs {
		l = append(l, kinds[w.Kind]+" "+strconv.Itoa(n.Owners[i]))
	}
	if got := strings.Join(l, ", "); got != want {
		t.Errorf("%s, want\n%s", got, want)
	}
}

// P4.1, P4.3: of locals, where each is known, and which one is meant. Behind each x stands, in its statement, which local it is, and else which one is meant; of 0 the global is.
func TestLocals(t *testing.T) {
	for _, text := range []string{
		// From behind its statement on, not in it.
		"log x0; var x1 int = 1; log x1;",
		"var x1 int = x0; log x1;",
		"var x1 fn = fn { log x0; }; log x1;",
		"var x1 fn = fn { log x0; var x2 int = 1; log x2; }; log x1;",
		"var x1 fn = fn { var x2 fn = fn { log x0; }; log x2; }; log x1;",
		// Of an inner block, and behind that one.
		"if x0 { var x1 int = 1; log x1; } log x0;",
		"if x0 { var x1 int = 1; } else { log x0; var x2 int = 2; log x2; } log x0;",
		"while x0 { log x0; var x1 int = 1; log x1; } log x0;",
		"var x1 int = 1; if x1 { log x1; var x2 int = 2; log x2; } log x1;",
		"var x1 int = 1; if 1 { var x2 int = x1; log x2; while x2 { log x2; var x3 int = x2; log x3; } log x2; } log x1;",
		"if 1 { if 2 { var x1 int = 1; } log x0; } log x0;",
		"if 1 { var x1 int = 1; } if 2 { var x2 int = x0; log x2; } log x0;",
		// In an inner function.
		"var x1 int = 1; call fn { log x1; };",
		"var x1 int = 1; call fn { var x2 int = x1; log x2; }; log x1;",
		"var x1 int = 1; call fn { log x1; var x2 int = 2; call fn { log x2; var x3 int = 3; log x3; }; log x2; }; log x1;",
		"call fn { var x1 int = 1; }; log x0;",
		"call fn { log x0; }; var x1 int = 1; call fn { log x1; };",
		"log fn { var x1 int = 1; log x1; } == fn { log x0; };",
		"if fn { var x1 int = 1; } { log x0; }",
		"if 1 { var x1 int = 1; call fn { if 2 { log x1; } }; } log x0;",
		// What is set, and to what something goes.
		"x0 = 1; var x1 int = 1; x1 = x1;",
		"var x1 tok = null; post a f to x1; spawn f to x1;",
		"post a f to x0; spawn f to x0;",
		"var x1 int = 1; x1.x[x1].x = x1 + x1;",
	} {
		local(t, text)
	}
}

// local holds what is meant by the x of main's statements, and of no other name, against what stands behind each of them.
func local(t *testing.T, text string) {
	t.Helper()
	var plain strings.Builder
	var labels []byte
	for i := range len(text) {
		if '0' <= text[i] && text[i] <= '9' && i > 0 && text[i-1] == 'x' {
			labels = append(labels, text[i])
		} else {
			plain.WriteByte(text[i])
		}
	}
	x, n := resolved(t, "main { "+plain.String()+" }\nlooper a; var x int; fn f { }")
	locals := map[int]byte{}
	for i, w := range x.Twigs {
		if w.Text != "x" || w.Kind != api.TwigVar && w.Kind != api.TwigUse {
			continue
		}
		label := labels[0]
		labels = labels[1:]
		m := n.Means[i]
		switch {
		case w.Kind == api.TwigVar:
			locals[i] = label
		case label == '0' && m != (api.Mean{Kind: api.MeanGlobal}), label != '0' && (m.Kind != api.MeanLocal || locals[m.N] != label):
			t.Errorf("%q: at %s, %v is meant (%c), want %c", text, place(x, i), m, locals[m.N], label)
		}
	}
	if len(labels) > 0 {
		t.Errorf("%q: labels %q are left", text, labels)
	}
}

// P4.1: a local is meant ahead of what is declared, of whatever kind that is, and where it is not known that one is.
func TestLocalsAheadOfDeclared(t *testing.T) {
	x, n := resolved(t, "looper a; class C { } var g int; fn f { } comp c on a { } event e on a on { }\nmain { post a f; enable e; if 1 { var a int = 1; var C int = a; var g int = C; var f int = g; var c int = f; var e int = c; log e; } call f; log g; post a fn { disable e; log new C; }; }")
	want := "a@1:53 looper 0, a@1:70 looper 0, a@2:8 looper 0, f@2:15 func 0, e@2:18 event 0, a@2:62 local a@2:35, C@2:77 local C@2:50, g@2:92 local g@2:65, f@2:107 local f@2:80, c@2:122 local c@2:95, e@2:129 local e@2:110, f@2:139 func 0, g@2:146 global 0, a@2:149 looper 0, e@2:161 event 0, C@2:176 class 0"
	if got := meant(x, n, 1); got != want {
		t.Errorf("%s, want\n%s", got, want)
	}
}

// P4.1, P4.3: what functions capture, in the order in which it is used first.
func TestCaptures(t *testing.T) {
	for _, c := range []struct{ body, want string }{
		// The chapter's example.
		{"var x int = 1; var f fn = fn { log x; };", "main, main.1 x@1:8"},
		{"var x int = 1; log x; call fn { var x int = 2; log x; };", "main, main.1"},
		{"var x int = 1; call fn { log g; call h; };", "main, main.1"},
		// In the order of first uses, each of them once.
		{"var x int = 1; var y int = 2; call fn { log y; log x; log y; };", "main, main.1 y@1:23 x@1:8"},
		{"var x int = 1; var y int = 2; var z int = 3; call fn { x = z + y; y = x; };", "main, main.1 x@1:8 z@1:38 y@1:23"},
		{"var x tok = null; var y int = 2; call fn { post a h to x; spawn h to y; };", "main, main.1 x@1:8 y@1:26"},
		// What an inner one captures, and the one around it has not, that one captures, too, at its place in the order.
		{"var x int = 1; call fn { call fn { log x; }; };", "main, main.1 x@1:8, main.2 x@1:8"},
		{"var x int = 1; call fn { call fn { call fn { x = 2; }; }; };", "main, main.1 x@1:8, main.2 x@1:8, main.3 x@1:8"},
		{"var x int = 1; var y int = 2; call fn { call fn { log y; }; log x; log y; };", "main, main.1 y@1:23 x@1:8, main.2 y@1:23"},
		{"var x int = 1; var y int = 2; call fn { log x; call fn { log y; log x; }; };", "main, main.1 x@1:8 y@1:23, main.2 y@1:23 x@1:8"},
		{"call fn { var x int = 1; call fn { log x; }; };", "main, main.1, main.2 x@1:18"},
		{"var y int = 2; call fn { var x int = 1; call fn { log x; log y; }; };", "main, main.1 y@1:8, main.2 x@1:33 y@1:8"},
		// The same name, but unlike locals.
		{"var x int = 1; call fn { log x; var x int = 2; log x; call fn { log x; }; };", "main, main.1 x@1:8, main.2 x@1:40"},
		{"var x int = 1; call fn { if x { var x int = x; log x; } log x; };", "main, main.1 x@1:8"},
		{"var x int = 1; if x { var x int = 2; call fn { log x; }; } call fn { log x; };", "main, main.1 x@1:30, main.2 x@1:8"},
		{"var x int = 1; call fn { var y int = x; call fn { var x int = y; call fn { log x; log y; }; }; };", "main, main.1 x@1:8, main.2 y@1:33, main.3 x@1:58 y@1:33"},
		// Functions side by side: one does not capture for the other.
		{"var x int = 1; call fn { log x; }; call fn { }; call fn { log x; };", "main, main.1 x@1:8, main.2, main.3 x@1:8"},
		{"var f fn = fn { }; f = fn { call f; };", "main, main.1, main.2 f@1:8"},
	} {
		x, n := resolved(t, "main { "+c.body+" }\nlooper a; var g int; fn h { }")
		var l []string
		for _, f := range n.Funcs[:len(n.Funcs)-1] {
			s := f.Name
			for _, v := range f.Captures {
				s += " " + place(x, v)
			}
			l = append(l, s)
		}
		if got := strings.Join(l, ", "); got != c.want {
			t.Errorf("%q: %s, want %s", c.body, got, c.want)
		}
	}
}

// P4.1: functions of all kinds hold locals, and inner ones capture them.
func TestCapturesOfAllKinds(t *testing.T) {
	x, n := resolved(t, "looper a; fn f { var x int = 1; call fn { log x; }; } comp c on a { stop { var x int = 1; call fn { log x; }; } } event e on a off { var x int = 1; call fn { log x; }; } main { var x int = 1; call fn { log x; }; }")
	want := "f@1:11, f.1@1:38 in f x@1:18, c.stop@1:69, c.stop.1@1:96 in c.stop x@1:76, e@1:115, e.1@1:154 in e x@1:134, main@1:171, main.1@1:198 in main x@1:178"
	if got := functions(x, n); got != want {
		t.Errorf("%s, want\n%s", got, want)
	}
}

// P4.2: the locals that some function captures, rising, each of them once.
func TestCaptured(t *testing.T) {
	x, n := resolved(t, "looper a; main { var x int = 1; var y int = 2; var z int = 3; call fn { log z; call fn { log x; log z; }; }; call fn { log x; }; log y; }\nfn f { var y int = 1; call fn { y = 2; }; }")
	var l []string
	for _, v := range Captured(n) {
		l = append(l, place(x, v))
	}
	if got, want := strings.Join(l, " "), "x@1:18 z@1:48 y@2:8"; got != want {
		t.Errorf("%s, want %s", got, want)
	}
	for _, c := range []struct {
		captures [][]int
		want     []int
	}{
		{nil, nil},
		{[][]int{nil, {}}, nil},
		{[][]int{{7}}, []int{7}},
		{[][]int{{9, 3}, {5}, {3, 9, 4}, {3}}, []int{3, 4, 5, 9}},
		{[][]int{{2, 1}, nil, {1, 2}}, []int{1, 2}},
	} {
		var n api.Names
		for _, l := range c.captures {
			n.Funcs = append(n.Funcs, api.NamedFunc{Captures: slices.Clone(l)})
		}
		got := Captured(n)
		if !slices.Equal(got, c.want) {
			t.Errorf("%v: %v, want %v", c.captures, got, c.want)
		}
		clear(got)
		for i, f := range n.Funcs {
			if !slices.Equal(f.Captures, c.captures[i]) {
				t.Errorf("%v was changed to %v", c.captures[i], f.Captures)
			}
		}
	}
}

// wrongs holds what is told of a text against what is wrong with it: each as line:col and an error's word, in order.
func wrongs(t *testing.T, text, want string) {
	t.Helper()
	words := map[api.Errno]string{api.ErrName: "name", api.ErrTwice: "twice", api.ErrNone: "none"}
	n, wrong := Resolve(parsed(t, text))
	var l []string
	for _, d := range wrong {
		l = append(l, strconv.Itoa(d.Line)+":"+strconv.Itoa(d.Col)+" "+words[d.Err])
	}
	if got := strings.Join(l, ", "); got != want {
		t.Errorf("Resolve of %q: %s, want %s", text, got, want)
	}
	if len(wrong) > 0 && !reflect.DeepEqual(n, api.Names{}) {
		t.Errorf("Resolve of %q: names beside what is wrong", text)
	}
}

// P4.1: no main, no looper.
func TestNone(t *testing.T) {
	wrongs(t, "", "1:1 none, 1:1 none")
	wrongs(t, "main { }", "1:1 none")
	wrongs(t, "looper a;", "1:1 none")
	wrongs(t, "looper a; main { }", "")
	wrongs(t, "main { } looper a;", "")
	wrongs(t, "\n  fn main1 { }", "1:1 none, 1:1 none")
	wrongs(t, "var g int;\n\nmain { log x; }", "1:1 none, 3:12 name")
	wrongs(t, "looper a; looper a; fn f { post b f; }", "1:1 none, 1:11 twice, 1:28 name")
}

// P4.1: names, mains and lives of which there is one already; the first one stays what is meant.
func TestTwice(t *testing.T) {
	declarations := []string{"looper n; ", "class n { } ", "var n int; ", "fn n { } ", "comp n on a { } ", "event n on a on { } "}
	for _, first := range declarations {
		for _, second := range declarations {
			text := "looper a; main { } " + first
			wrongs(t, text+second, "1:"+strconv.Itoa(len(text)+1)+" twice")
			wrongs(t, text+"fn other { } "+second+"\n"+first, "1:"+strconv.Itoa(len(text)+14)+" twice, 2:1 twice")
		}
	}
	wrongs(t, "looper a; main { } main { }", "1:20 twice")
	wrongs(t, "looper a; main { } main { log x; } main { }", "1:20 twice, 1:31 name, 1:36 twice")
	wrongs(t, "looper a; main { } class C { x int; y int; x fn; }", "1:44 twice")
	wrongs(t, "looper a; main { } class C { x int; x E; x x; }", "1:37 twice, 1:39 name, 1:42 twice, 1:44 name")
	wrongs(t, "looper a; main { } class C { x int; C int; a fn; } class D { x int; C fn; }", "")
	wrongs(t, "looper a; main { } comp c on a { stop { } start { } stop { } }", "1:53 twice")
	wrongs(t, "looper a; main { } comp c on a { create { } create { } create { } }", "1:45 twice, 1:56 twice")
	wrongs(t, "looper a; main { } comp c on a { create { } start { } stop { } destroy { } } comp d on a { create { } start { } stop { } destroy { } }", "")
	wrongs(t, "looper a; main { var x int = 1; var x int = 2; }", "1:33 twice")
	wrongs(t, "looper a; main { var x int = 1; var y int = x; var x fn = x; log y; var x fn = null; }", "1:48 twice, 1:69 twice")
	wrongs(t, "looper a; main { var x int = 1; if x { var x int = 2; var x int = 3; } else { var x int = 4; } while x { var x int = 5; } }", "1:55 twice")
	wrongs(t, "looper a; main { var x fn = fn { var x int = 1; }; call fn { var x int = 2; }; } fn x { var x int = 3; var a int = 4; }", "")
	wrongs(t, "looper a; main { call fn { var x int = 1; var y int = 2; var x int = 3; }; }", "1:58 twice")
	wrongs(t, "looper a; main { var x int = 1; var x int = 2; var x int = 3; }", "1:33 twice, 1:48 twice")
}

// P4.1: of two of one name, the first one stays what is meant.
func TestTheFirstIsMeant(t *testing.T) {
	wrongs(t, "looper a; main { log n; } var n int; looper n;", "1:38 twice")
	wrongs(t, "looper a; main { log n; } looper n; var n int;", "1:22 name, 1:37 twice")
	wrongs(t, "looper a; main { post n fn { }; } event n on n on { } looper n;", "1:18 name, 1:46 name, 1:55 twice")
	wrongs(t, "looper a; main { enable n; log new n; } class n { } event n on a on { }", "1:18 name, 1:53 twice")
	wrongs(t, "looper a; main { enable n; } comp n on a { } event n on a on { }", "1:18 name, 1:46 twice")
	wrongs(t, "looper a; main { call n; } comp n on a { } fn n { }", "1:23 name, 1:44 twice")
	wrongs(t, "looper a; main { if 1 { var n int = 1; var n int = n; log n; } log n; }", "1:40 twice, 1:68 name")
	// What is meant of two locals is told of no tree, but it may be asked of the resolver itself.
	x := parsed(t, "looper a; var n int; main { var n int = 1; var n int = 2; log n; } looper n; fn n { }")
	r := newResolver(x)
	r.goOver(declaring())
	r.goOver(meaning())
	if got := meant(x, r.names, 1); got != "n@1:63 local n@1:29" {
		t.Errorf("of two locals of one name: %s", got)
	}
	if r.declared["n"] != (api.Mean{Kind: api.MeanGlobal}) {
		t.Errorf("of three declared ones of one name: %v", r.declared["n"])
	}
}

// P4.1: names that mean nothing of the kind that they must: each kind of name where each other one must stand.
func TestWrongKinds(t *testing.T) {
	declared := "looper l; class c { } var g int; fn f { } comp m on l { } event e on l on { }\nmain { var v int = 1; "
	places := []struct{ ahead, behind, right string }{
		{"log ", ";", "vgf"},
		{"", " = 1;", "vgf"},
		{"post l f to ", ";", "vgf"},
		{"spawn ", ";", "vgf"},
		{"log fn { log 1 + ", "; };", "vgf"},
		{"log ", ".x[0];", "vgf"},
		{"post ", " f;", "l"},
		{"post ", " f front to v;", "l"},
		{"enable ", ";", "e"},
		{"disable ", ";", "e"},
		{"log new ", ";", "c"},
		{"log new ", ".x;", "c"},
		{"var w ", " = null;", "c"},
		{"call fn { enable ", "; };", "e"},
	}
	for _, p := range places {
		for _, name := range []string{"l", "c", "g", "f", "m", "e", "v", "w", "x", "nobody", "main1", "create1"} {
			text := declared + p.ahead + "@" + name + p.behind + " }"
			head := text[strings.IndexByte(text, '\n')+1 : strings.IndexByte(text, '@')]
			// What a post, a turn, a new is told by is its first word.
			col := len(head) + 1
			for _, word := range []string{"post ", "enable ", "disable ", "new "} {
				if strings.HasSuffix(head, word) {
					col = len(head) - len(word) + 1
				}
			}
			want := "2:" + strconv.Itoa(col) + " name"
			if strings.Contains(p.right, name) {
				want = ""
			}
			wrongs(t, strings.Replace(text, "@", "", 1), want)
		}
	}
	wrongs(t, "main { } looper l; class c { } var g int; fn f { } comp m on c { } event e on m off { } comp n on n { } event d on g on { } comp k on zz { } event b on f on { } event h on h on { }",
		"1:62 name, 1:79 name, 1:99 name, 1:116 name, 1:135 name, 1:153 name, 1:173 name")
	wrongs(t, "main { } looper l; class c { a c; b l; d g; h f; i m; j e; k int; n zz; } var g d; fn f { } comp m on l { } event e on l on { } var q c; var r r;",
		"1:37 name, 1:42 name, 1:47 name, 1:52 name, 1:57 name, 1:69 name, 1:81 name, 1:144 name")
}

// P4.1: the nearest one is meant: where a local's name must be that of something else, nothing of that kind is meant.
func TestLocalsWhereOthersMustBe(t *testing.T) {
	declared := "looper a; class C { } event e on a on { } fn f { }\nmain { "
	wrongs(t, declared+"post a f; var a int = 1; post a f; }", "2:33 name")
	wrongs(t, declared+"enable e; var e int = 1; enable e; disable e; }", "2:33 name, 2:43 name")
	wrongs(t, declared+"log new C; var C int = 1; log new C; }", "2:38 name")
	wrongs(t, declared+"var C C = new C; var d C = null; }", "2:31 name")
	wrongs(t, declared+"if 1 { var a int = 1; call fn { post a f; }; } post a f; }", "2:40 name")
}

// P4.1: a local is not known ahead of its statement, in it, behind its block, or in another function.
func TestUnknownLocals(t *testing.T) {
	// The chapter's example.
	wrongs(t, "looper a; main { log x; }", "1:22 name")
	for _, c := range []struct{ body, want string }{
		{"log x; var x int = 1;", "1:12 name"},
		{"var x int = x;", "1:20 name"},
		{"var x fn = fn { call x; };", "1:29 name"},
		{"x = 1; var x int = 1; x = 2;", "1:8 name"},
		{"if 1 { var x int = 1; } log x;", "1:36 name"},
		{"if 1 { var x int = 1; } else { log x; }", "1:43 name"},
		{"while x { var x int = 1; }", "1:14 name"},
		{"call fn { var x int = 1; }; log x;", "1:40 name"},
		{"call fn { log x; }; var x int = 1;", "1:22 name"},
		{"log fn { var x int = 1; } == fn { log x; };", "1:46 name"},
		{"var x int = 1; } fn f { log x;", "1:36 name"},
		{"var x int = 1; } comp c on a { create { log x; } start { var x int = 2; } stop { x = 1; }", "1:52 name, 1:89 name"},
		{"var x int = 1; } event e on a on { log x;", "1:47 name"},
	} {
		wrongs(t, "main { "+c.body+" } looper a;", c.want)
	}
}

// P4.1: several wrong things at once: all are told, in the tree's order.
func TestAllThatIsWrong(t *testing.T) {
	wrongs(t, "class C { a D; a int; }\nvar C E; fn f { log y; var z F = new G; var z int = q; }\ncomp c on u { start { x = 1; } start { enable f; } }\nevent c on v on { post c f; disable w; }\nfn f { call f; call c; }\nvar z z;",
		"1:1 none, 1:1 none, 1:13 name, 1:16 twice, 2:1 twice, 2:7 name, 2:21 name, 2:30 name, 2:34 name, 2:41 twice, 2:53 name, 3:11 name, 3:23 name, 3:32 twice, 3:40 name, 4:1 twice, 4:12 name, 4:19 name, 4:29 name, 5:1 twice, 5:21 name, 6:7 name")
	wrongs(t, "main { log x[y].z + w; post u v to s; spawn k to fn { log m; }.n; }", "1:1 none, 1:12 name, 1:14 name, 1:21 name, 1:24 name, 1:31 name, 1:36 name, 1:45 name, 1:59 name")
}
