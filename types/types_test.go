package types

import (
	"fmt"
	"math"
	"reflect"
	"slices"
	"strconv"
	"strings"
	"testing"

	"detent/api"
	"detent/names"
	"detent/parse"
)

// resolved tells the tree of a text, and what its names mean, of a text with none of which anything is wrong.
func resolved(t *testing.T, text string) (api.Tree, api.Names) {
	t.Helper()
	x, wrong := parse.Parse([]byte(text))
	if len(wrong) > 0 {
		t.Fatalf("Parse(%q): %v", text, wrong)
	}
	n, wrong := names.Resolve(x)
	if len(wrong) > 0 {
		t.Fatalf("Resolve of %q: %v", text, wrong)
	}
	return x, n
}

// checked tells the types of a text with which nothing is wrong, too.
func checked(t *testing.T, text string) (api.Tree, api.Names, []api.Type) {
	t.Helper()
	x, n := resolved(t, text)
	l, wrong := Check(x, n)
	if len(wrong) > 0 || len(l) != len(x.Twigs) {
		t.Fatalf("Check of %q: %v, %d types of %d twigs", text, wrong, len(l), len(x.Twigs))
	}
	return x, n, l
}

// wrongs tells where something is wrong with a text's types, each place as line:col.
func wrongs(t *testing.T, text string) string {
	t.Helper()
	x, n := resolved(t, text)
	types, wrong := Check(x, n)
	if len(wrong) > 0 && len(types) > 0 {
		t.Errorf("Check of %q: types beside what is wrong", text)
	}
	if len(wrong) == 0 && len(types) != len(x.Twigs) {
		t.Errorf("Check of %q: neither types nor what is wrong", text)
	}
	var l []string
	for _, d := range wrong {
		if d.Err != api.ErrType {
			t.Errorf("Check of %q: %v", text, d)
		}
		l = append(l, fmt.Sprintf("%d:%d", d.Line, d.Col))
	}
	return strings.Join(l, " ")
}

// marks takes each ^ out of a text of one line, and tells where they stood as wrongs does, on the line 2.
func marks(text string) (string, string) {
	var l []string
	for {
		ahead, behind, is := strings.Cut(text, "^")
		if !is {
			return text, strings.Join(l, " ")
		}
		l = append(l, "2:"+strconv.Itoa(len(ahead)+1))
		text = ahead + behind
	}
}

// asMarked holds what is wrong with a line, behind declarations, against its marks.
func asMarked(t *testing.T, declared, line string) {
	t.Helper()
	text, want := marks(line)
	if got := wrongs(t, declared+"\n"+text); got != want {
		t.Errorf("Check of %s\n%s: wrong at %q, want %q", declared, line, got, want)
	}
}

// word tells a type as it is written; of nothing "0".
func word(x api.Tree, n api.Names, typ api.Type) string {
	if typ < 0 {
		return x.Twigs[n.Classes[-typ-1]].Text
	}
	return []string{"0", "int", "fn", "tok", "hand", "arr"}[typ]
}

// kindWord tells a twig's kind.
func kindWord(k api.TwigKind) string {
	return strings.Fields("none prog looper class member type global func comp life event main block var set call cancel join log post spawn enable disable if while return number null it use dot index op new arr len fn")[k]
}

// typed tells each twig from a line on, in the tree's order, with its type; but none of those left out.
func typed(x api.Tree, n api.Names, l []api.Type, line int, out ...api.TwigKind) string {
	var s []string
	for i, w := range x.Twigs {
		if w.Line >= line && !slices.Contains(out, w.Kind) {
			s = append(s, kindWord(w.Kind)+" "+word(x, n, l[i]))
		}
	}
	return strings.Join(s, ", ")
}

// declared has a global of each type, two classes, a function, and an event.
const declared = "looper a; class C { i int; f fn; t tok; h hand; r arr; c C; d D; } class D { i D; e int; } var i int; var f fn; var t tok; var h hand; var r arr; var c C; var d D; fn p { } event e on a on { }"

// P5.1: of each kind of term its type, and of the twigs around it.
func TestTypesOfTerms(t *testing.T) {
	for _, c := range []struct{ statement, want string }{
		{"log 5;", "log 0, number int"},
		{"log it;", "log 0, it int"},
		{"f = null;", "set 0, use fn, null 0"},
		// Names, of locals and globals of each type, and of functions.
		{"i = i;", "set 0, use int, use int"},
		{"f = f;", "set 0, use fn, use fn"},
		{"t = t;", "set 0, use tok, use tok"},
		{"h = h;", "set 0, use hand, use hand"},
		{"r = r;", "set 0, use arr, use arr"},
		{"c = c;", "set 0, use C, use C"},
		{"d = d;", "set 0, use D, use D"},
		{"f = p;", "set 0, use fn, use fn"},
		{"var x int = i; i = x;", "var int, type int, use int, set 0, use int, use int"},
		{"var x fn = p; x = f;", "var fn, type fn, use fn, set 0, use fn, use fn"},
		{"var x tok = t; t = x;", "var tok, type tok, use tok, set 0, use tok, use tok"},
		{"var x hand = h; h = x;", "var hand, type hand, use hand, set 0, use hand, use hand"},
		{"var x arr = r; r = x;", "var arr, type arr, use arr, set 0, use arr, use arr"},
		{"var x C = c; c = x;", "var C, type C, use C, set 0, use C, use C"},
		{"var x D = d; d = x;", "var D, type D, use D, set 0, use D, use D"},
		// The nearest one is meant.
		{"var i fn = f; i = f; if 1 { var i D = d; i = d; } i = p;", "var fn, type fn, use fn, set 0, use fn, use fn, if 0, number int, var D, type D, use D, set 0, use D, use D, set 0, use fn, use fn"},
		{"var p int = 1; p = i;", "var int, type int, number int, set 0, use int, use int"},
		// Members.
		{"i = c.i; d = d.i;", "set 0, use int, dot int, use C, set 0, use D, dot D, use D"},
		{"f = c.f; t = c.t; h = c.h; r = c.r;", "set 0, use fn, dot fn, use C, set 0, use tok, dot tok, use C, set 0, use hand, dot hand, use C, set 0, use arr, dot arr, use C"},
		{"c.c.d.i = new D;", "set 0, dot D, dot D, dot C, use C, new D"},
		{"log (new C).c.d.e;", "log 0, dot int, dot D, dot C, new C"},
		// Brackets, sums, and so on.
		{"log r[i];", "log 0, index int, use arr, use int"},
		{"r[0] = c.r[it];", "set 0, index int, use arr, number int, index int, dot arr, use C, it int"},
		{"log 1 + it; log i - 2; log 3 * i; log i < i;", "log 0, op int, number int, it int, log 0, op int, use int, number int, log 0, op int, number int, use int, log 0, op int, use int, use int"},
		{"log f == null; log c == c; log null == null; log 1 == i;", "log 0, op int, use fn, null 0, log 0, op int, use C, use C, log 0, op int, null 0, null 0, log 0, op int, number int, use int"},
		{"c = new C; d = new D;", "set 0, use C, new C, set 0, use D, new D"},
		{"r = arr 3; log len r;", "set 0, use arr, arr arr, number int, log 0, len int, use arr"},
		{"call fn { log 1; };", "call 0, fn fn, log 0, number int"},
		{"f = fn { f = fn { i = len arr 2; }; };", "set 0, use fn, fn fn, set 0, use fn, fn fn, set 0, use int, len int, arr arr, number int"},
		// Statements.
		{"call p; call f; cancel t; join h; log i;", "call 0, use fn, call 0, use fn, cancel 0, use tok, join 0, use hand, log 0, use int"},
		{"post a p; post a f front to t; post a fn { } after 3 to c.t;", "post 0, use fn, post 0, use fn, use tok, post 0, fn fn, dot tok, use C"},
		{"spawn p; spawn f to h; spawn fn { } to c.h;", "spawn 0, use fn, spawn 0, use fn, use hand, spawn 0, fn fn, dot hand, use C"},
		{"enable e; disable e; return;", "enable 0, disable 0, return 0"},
		{"if i { log 1; } else { return; } while c == null { c = null; }", "if 0, use int, log 0, number int, return 0, while 0, op int, use C, null 0, set 0, use C, null 0"},
	} {
		x, n, l := checked(t, declared+"\nmain { "+c.statement+" }")
		if got := typed(x, n, l, 2, api.TwigMain, api.TwigBlock); got != c.want {
			t.Errorf("%q: %s, want %s", c.statement, got, c.want)
		}
	}
}

// P5.1: of all kinds of twigs the types; what is no term and is of no type has 0, and so has the looper behind 'on'.
func TestTypesOfAllTwigs(t *testing.T) {
	x, n, l := checked(t, "looper a; class C { x int; y C; } var g C; var k fn; fn p { return; } comp m on a { start { log 1; } } event e on a on { enable e; } class D { } main { g = new C; var v D = null; }")
	want := "prog 0, looper 0, class 0, member int, type int, member C, type C, global C, type C, global fn, type fn, func 0, block 0, return 0, " +
		"comp 0, use 0, life 0, block 0, log 0, number int, event 0, use 0, block 0, enable 0, class 0, main 0, block 0, set 0, use C, new C, var D, type D, null 0"
	if got := typed(x, n, l, 1); got != want {
		t.Errorf("%s, want\n%s", got, want)
	}
}

// P5.1: classes are numbered as they stand, from -1 on down, wherever they are used.
func TestClassNumbers(t *testing.T) {
	x, _, l := checked(t, "var z Z; main { var y Y = new Y; var x X = new X; z = new Z; z = z.z; } class X { z Z; } class Z { z Z; } looper a; class Y { y X; }")
	var s []string
	for i, w := range x.Twigs {
		if l[i] != 0 {
			s = append(s, w.Text+strconv.Itoa(int(l[i])))
		}
	}
	want := "z-2 Z-2 y-3 Y-3 Y-3 x-1 X-1 X-1 z-2 Z-2 z-2 z-2 z-2 z-2 Z-2 z-2 Z-2 y-1 X-1"
	if got := strings.Join(s, " "); got != want {
		t.Errorf("%s, want %s", got, want)
	}
}

// samples are terms, with their types.
func samples() []struct{ text, typ string } {
	return []struct{ text, typ string }{
		{"5", "int"}, {"it", "int"}, {"i", "int"}, {"c.i", "int"}, {"r[0]", "int"}, {"(1 + 2)", "int"}, {"(c == null)", "int"}, {"(len r)", "int"},
		{"f", "fn"}, {"p", "fn"}, {"c.f", "fn"}, {"fn { }", "fn"},
		{"t", "tok"}, {"c.t", "tok"},
		{"h", "hand"}, {"c.h", "hand"},
		{"r", "arr"}, {"c.r", "arr"}, {"(arr 2)", "arr"},
		{"c", "C"}, {"c.c", "C"}, {"new C", "C"},
		{"d", "D"}, {"c.d", "D"}, {"d.i", "D"}, {"new D", "D"},
		{"null", "null"}, {"(null)", "null"},
	}
}

// P5.1: what each kind of twig's kids must be: each term where each one may stand. At ^ it is told to be wrong.
func TestWhatMustBe(t *testing.T) {
	for _, c := range []struct{ line, right string }{
		{"^log @;", "int"},
		{"^if @ { }", "int"},
		{"^while @ { }", "int"},
		{"^call @;", "fn"},
		{"^cancel @;", "tok"},
		{"^join @;", "hand"},
		{"^post a @;", "fn"},
		{"^post a @ front;", "fn"},
		{"^post a @ after 3 to t;", "fn"},
		{"^spawn @;", "fn"},
		{"^spawn @ to h;", "fn"},
		{"r = ^arr @;", "int"},
		{"log ^len @;", "arr"},
		{"log @^[0];", "arr"},
		{"log r^[@];", "int"},
		{"log @ ^+ 1;", "int"},
		{"log 1 ^+ @;", "int"},
		{"log @ ^- 1;", "int"},
		{"log 1 ^- @;", "int"},
		{"log @ ^* 1;", "int"},
		{"log 1 ^* @;", "int"},
		{"log @ ^< 1;", "int"},
		{"log 1 ^< @;", "int"},
		{"log @^.e;", "D"},
		{"t = @^.t;", "C"},
		{"log @^.zzz;", ""},
		// Of what is set the fit is asked, which null has with all but int.
		{"^var x int = @;", "int"},
		{"^var x fn = @;", "fn null"},
		{"^var x tok = @;", "tok null"},
		{"^var x hand = @;", "hand null"},
		{"^var x arr = @;", "arr null"},
		{"^var x C = @;", "C null"},
		{"^var x D = @;", "D null"},
		{"^i = @;", "int"},
		{"^f = @;", "fn null"},
		{"^t = @;", "tok null"},
		{"^h = @;", "hand null"},
		{"^r = @;", "arr null"},
		{"^c = @;", "C null"},
		{"^d = @;", "D null"},
		{"^c.t = @;", "tok null"},
		{"^c.d.i = @;", "D null"},
		{"^c.d.e = @;", "int"},
		{"^r[0] = @;", "int"},
		{"var x C = c; ^x = @;", "C null"},
		// Of == the fit of either kid is asked.
		{"log @ ^== 1;", "int"},
		{"log 1 ^== @;", "int"},
		{"log @ ^== f;", "fn null"},
		{"log p ^== @;", "fn null"},
		{"log @ ^== t;", "tok null"},
		{"log t ^== @;", "tok null"},
		{"log @ ^== h;", "hand null"},
		{"log h ^== @;", "hand null"},
		{"log @ ^== r;", "arr null"},
		{"log r ^== @;", "arr null"},
		{"log @ ^== c;", "C null"},
		{"log c ^== @;", "C null"},
		{"log @ ^== d;", "D null"},
		{"log d ^== @;", "D null"},
		{"log @ ^== null;", "fn tok hand arr C D null"},
		{"log null ^== @;", "fn tok hand arr C D null"},
	} {
		for _, s := range samples() {
			line := "main { " + c.line + " }"
			if slices.Contains(strings.Fields(c.right), s.typ) {
				line = strings.Replace(line, "^", "", 1)
			}
			asMarked(t, declared, strings.Replace(line, "@", s.text, 1))
		}
	}
}

// P5.1: what goes to a variable must be its type, without null; each variable where each one may stand.
func TestWhatGoes(t *testing.T) {
	for _, v := range []struct{ text, typ string }{
		{"i", "int"}, {"f", "fn"}, {"t", "tok"}, {"h", "hand"}, {"r", "arr"}, {"c", "C"}, {"d", "D"},
		{"c.i", "int"}, {"c.f", "fn"}, {"c.t", "tok"}, {"c.h", "hand"}, {"c.r", "arr"}, {"c.c", "C"}, {"c.d", "D"}, {"r[0]", "int"},
		{"p", "fn"},
	} {
		post, spawn := "^", "^"
		switch v.typ {
		case "tok":
			post = ""
		case "hand":
			spawn = ""
		}
		asMarked(t, declared, "main { "+post+"post a f to "+v.text+"; }")
		asMarked(t, declared, "main { "+post+"post a fn { } front to "+v.text+"; }")
		asMarked(t, declared, "main { "+spawn+"spawn f to "+v.text+"; }")
		// What is wrong with both kids is told once.
		asMarked(t, declared, "main { ^post a 5 to "+v.text+"; ^spawn null to "+v.text+"; }")
	}
}

// P5.1: a function's name is a term, but to it nothing is set, and nothing goes.
func TestFunctionNames(t *testing.T) {
	for _, line := range []string{
		"call p; f = p; var x fn = p; x = p; post a p; spawn p; log p == f; log p == null; log p == p;",
		"^log p; ^i = p; ^var x int = p; log p ^+ 1; log p^[0]; log p^.x; r = ^arr p;",
		"^p = f;", "^p = p;", "^p = null;", "^p = fn { };", "^p = 1;", "^p = 1 ^+ null;", "^(p) = fn { };",
		"^p = fn { ^p = f; };",
		"^post a f to p; ^spawn f to p;", "^post a p front to p; ^spawn p to p;",
		"call fn { ^p = f; call p; };",
		// A local of that name is none.
		"var p fn = f; p = f; call fn { p = null; }; if 1 { var p tok = null; post a f to p; }",
	} {
		asMarked(t, declared, "main { "+line+" }")
	}
	asMarked(t, declared, "fn q { ^q = f; ^p = q; f = q; }  main { ^main1 = q; f = main1; } fn main1 { }")
}

// P5.1: members: of that name, in that class, of no other class and of nothing else.
func TestDots(t *testing.T) {
	classes := "looper a; class C { x int; d D; } class D { y fn; c C; D int; } class E { } var c C; var d D; var e E; var i int;"
	for _, line := range []string{
		"log c.x; call d.y; c = d.c; log d.D; log d.c.d.c.x; log c.d.D;",
		"log c^.y; call d^.x; log c^.c; log c^.D; log c^.C; log e^.x; log e^.e;",
		"log d.c^.y; log c.d^.x; call d.c.d.c^.y; call d.c.d.y;",
		"log i^.x; log 5^.x; log null^.x; log it^.x; log (fn { })^.x; log (arr 1)^.x; log (1 + 1)^.x;",
		"log (new C).x; log (new D)^.x; call (new D).y;",
		"^log c.d; ^log d.y; ^call c.x; ^log c;",
		"^c.x = null; d.c = null; ^d.c = d; c.d = d; c.d.c = new C; ^c.d.c = new D;",
	} {
		asMarked(t, classes, "main { "+line+" }")
	}
}

// P5.1: what is wrong is told in the tree's order, all of it, each twig once; what has no type is not told again.
func TestAllThatIsWrong(t *testing.T) {
	for _, line := range []string{
		// The chapter's examples.
		"^var x int = null;",
		"log 1 + (fn { } ^== 2);",
		// Both kids are wrong, but the twig is so once.
		"log null ^+ null;", "log null^[null];", "^post a 1 to i;", "log f ^< r;",
		// A term that is wrong has no type, nor has one that is made of it.
		"log (1 ^+ f) + 1;", "log 1 + (1 ^+ f);", "log (1 ^+ f) == f;", "log f == (1 ^+ f);", "log ((1 ^+ f) * 2 - 3) < 4;",
		"call 1 ^+ f;", "call 2 * (1 ^+ f);", "cancel c^.zzz;", "join c^.zzz.y.z;", "log c^.zzz[0].y;", "post a c^.zzz;", "spawn c^.zzz to h;", "if f ^+ 1 { }", "while len ^len f { }",
		"var x fn = 1 ^+ f;", "var x C = ^len f;", "f = 1 ^+ f;", "c^.zzz = 1;", "c^.zzz = null;", "c^.zzz = c^.yyy;", "i^[0] = f;", "r^[f] = f;", "post a f to c^.zzz;", "spawn f to c^.zzz;",
		"r = arr ^len 3;", "log r[^len 3];", "log (^arr f)[0];", "log len ^arr f;", "log (^arr f) == 1;",
		// But of what stands beside it, it is told.
		"log f ^+ (1 ^+ f);", "log f^[c^.zzz];", "^post a c^.zzz to i;", "^post a 5 to c^.zzz;", "^spawn c^.zzz to f;", "^spawn 5 to c^.zzz;",
		"log (f ^+ 1) == (r ^+ 1);",
		// A closure is one, whatever stands in it.
		"call fn { ^log f; };", "^log fn { ^log f; };", "f = fn { c^.zzz = 1; };", "^i = fn { ^i = fn { ^i = f; }; };", "log fn { ^log f; } == fn { log 1 ^+ f; };",
		// A local is of its type, whatever it is set to.
		"^var x int = f; log x; ^call x;", "var x fn = 1 ^+ f; call x; ^log x;", "^var x C = d; c = x; ^d = x;",
		// In the tree's order.
		"^log f; ^call i; ^join t; ^cancel h;", "^if f { ^log f; } else { ^log r; } ^log t;", "^while f { ^while f { ^log f; } }", "log r[1 ^+ f] + (2 ^+ f) * (3 ^+ f);",
		"^if fn { ^log f; } { ^log r; }", "^post a c to i; ^p = 1; log c^.zzz;", "if 1 { ^log f; } ^log c; if 2 { } else { ^log d; }",
	} {
		asMarked(t, declared, "main { "+line+" }")
	}
	asMarked(t, declared, "fn q { ^log f; } comp m on a { stop { ^log f; } create { log 1 ^+ f; } } event k on a off { ^call 1; } main { ^log f; } class F { } fn s { ^log new F; }")
}

// P5.1: in the tree's order a sign, a point, a bracket is ahead of what stands ahead of it in the text.
func TestTreeOrder(t *testing.T) {
	for _, c := range []struct{ line, want string }{
		{"log (1 + f) + f;", "2:20 2:15"},
		{"log ((1 + f) + f) + f;", "2:26 2:21 2:16"},
		{"log (1 + f) == (2 + f) + f;", "2:15 2:31 2:26"},
		{"log (c.zzz)[f];", "2:19 2:14"},
		{"log r[f][c.zzz + f];", "2:13 2:23 2:18"},
		{"log (fn { log f; }) + 1;", "2:28 2:18"},
		{"log f + null; log (f + 1) * null + (f - 2);", "2:14 2:34 2:29 2:46"},
		{"log (r[1 + f] + (2 + f) * (3 + f)) + f;", "2:43 2:17 2:27 2:37"},
	} {
		if got := wrongs(t, declared+"\nmain { "+c.line+" }"); got != c.want {
			t.Errorf("%s: wrong at %q, want %q", c.line, got, c.want)
		}
	}
}

// P5.1: what is wrong is told at twigs' places, whatever these are, in the tree's order, not in that of places.
func TestPlaces(t *testing.T) {
	x, n := resolved(t, "looper a; main { log null; if 1 + null { call 5; } }")
	var want []api.Diag
	for i := range x.Twigs {
		w := &x.Twigs[i]
		w.Line, w.Col = 7-5*i, 3*i
		if slices.Contains([]api.TwigKind{api.TwigLog, api.TwigOp, api.TwigCall}, w.Kind) {
			want = append(want, api.Diag{Line: w.Line, Col: w.Col, Err: api.ErrType})
		}
	}
	if l, wrong := Check(x, n); !slices.Equal(wrong, want) || len(want) != 3 || l != nil {
		t.Errorf("%v, %v, want %v", l, wrong, want)
	}
}

// P5.2: a type fits itself, and nothing fits each one but int; nothing else does, so just nothing fits nothing.
func TestFits(t *testing.T) {
	all := []api.Type{math.MinInt, -17, -2, -1, api.TypeNull, api.TypeInt, api.TypeFn, api.TypeToken, api.TypeHand, api.TypeArray, api.TypeArray + 1, math.MaxInt}
	for _, a := range all {
		for _, b := range all {
			if got, want := Fits(a, b), a == b || a == 0 && b != 1; got != want {
				t.Errorf("Fits(%d, %d): %v", a, b, got)
			}
		}
	}
	for _, c := range []struct {
		a, b api.Type
		want bool
	}{
		{api.TypeNull, api.TypeNull, true}, {api.TypeNull, api.TypeInt, false}, {api.TypeNull, api.TypeFn, true}, {api.TypeNull, -1, true},
		{api.TypeInt, api.TypeNull, false}, {-1, api.TypeNull, false}, {-1, -1, true}, {-1, -2, false}, {api.TypeInt, api.TypeInt, true}, {api.TypeToken, api.TypeHand, false},
	} {
		if got := Fits(c.a, c.b); got != c.want {
			t.Errorf("Fits(%d, %d): %v", c.a, c.b, got)
		}
	}
}

// P5.2: Of tells the type of a TwigType, TwigVar, TwigGlobal or TwigMember; of another twig, of a number that is none 0.
func TestOf(t *testing.T) {
	x, n := resolved(t, "looper a; class C { i int; f fn; t tok; h hand; r arr; c C; d D; } class D { }\nvar i int; var f fn; var t tok; var h hand; var r arr; var c C; var d D; event e on a on { }\n"+
		"main { var i int = 1; var f fn = fn { }; var t tok = null; var h hand = null; var r arr = arr 1; var c C = new C; var d D = null; log c.i; if i < r[len r] { call f; } post a f to t; spawn f to h; cancel t; join h; i = it; enable e; disable e; while 1 { return; } }")
	want := map[string]api.Type{"i": api.TypeInt, "f": api.TypeFn, "t": api.TypeToken, "h": api.TypeHand, "r": api.TypeArray, "c": -1, "d": -2, "int": api.TypeInt, "fn": api.TypeFn, "tok": api.TypeToken, "hand": api.TypeHand, "arr": api.TypeArray, "C": -1, "D": -2}
	got := 0
	for i, w := range x.Twigs {
		typ := api.Type(0)
		switch w.Kind {
		case api.TwigType, api.TwigVar, api.TwigGlobal, api.TwigMember:
			typ = want[w.Text]
			got++
		}
		if Of(x, n, i) != typ {
			t.Errorf("%s %q at %d:%d: %d, want %d", kindWord(w.Kind), w.Text, w.Line, w.Col, Of(x, n, i), typ)
		}
	}
	if got != 3*2*7 {
		t.Errorf("%d twigs have types", got)
	}
	for _, i := range []int{-1, len(x.Twigs), len(x.Twigs) + 1, math.MinInt, math.MaxInt} {
		if typ := Of(x, n, i); typ != 0 {
			t.Errorf("of the twig %d: %d", i, typ)
		}
	}
}

// P5.2: Of and Member ask nothing of what stands in functions: what is wrong there is no matter.
func TestOfWhatIsWrong(t *testing.T) {
	x, n := resolved(t, "looper a; class C { x int; y C; } main { var v C = 5; log v.z; }")
	for i, w := range x.Twigs {
		if w.Kind == api.TwigVar && Of(x, n, i) != -1 {
			t.Errorf("of v: %d", Of(x, n, i))
		}
	}
	if nth, typ := Member(x, n, -1, "y"); nth != 1 || typ != -1 {
		t.Errorf("y: %d, %d", nth, typ)
	}
}

// P5.2: which member of a class has a name, and its type; -1 and 0, where none has it, or there is no such class.
func TestMember(t *testing.T) {
	x, n := resolved(t, "class C { i int; f fn; t tok; h hand; } main { } class D { r arr; i D; c C; e E; } looper a; class E { } var g E; fn zz { }")
	for _, c := range []struct {
		class api.Type
		name  string
		nth   int
		typ   api.Type
	}{
		{-1, "i", 0, api.TypeInt}, {-1, "f", 1, api.TypeFn}, {-1, "t", 2, api.TypeToken}, {-1, "h", 3, api.TypeHand},
		{-2, "r", 0, api.TypeArray}, {-2, "i", 1, -2}, {-2, "c", 2, -1}, {-2, "e", 3, -3},
		// Names of another class, of other things, of nothing.
		{-1, "r", -1, 0}, {-1, "c", -1, 0}, {-2, "f", -1, 0}, {-3, "i", -1, 0}, {-3, "E", -1, 0}, {-1, "C", -1, 0}, {-1, "g", -1, 0}, {-1, "zz", -1, 0},
		{-1, "", -1, 0}, {-1, "int", -1, 0}, {-1, "I", -1, 0}, {-1, "ii", -1, 0}, {-3, "", -1, 0},
		// No such class, no class.
		{-4, "i", -1, 0}, {-5, "i", -1, 0}, {math.MinInt, "i", -1, 0}, {math.MaxInt, "i", -1, 0},
		{api.TypeNull, "i", -1, 0}, {api.TypeInt, "i", -1, 0}, {api.TypeFn, "i", -1, 0}, {api.TypeToken, "i", -1, 0}, {api.TypeHand, "i", -1, 0}, {api.TypeArray, "i", -1, 0},
	} {
		if nth, typ := Member(x, n, c.class, c.name); nth != c.nth || typ != c.typ {
			t.Errorf("Member(%d, %q): %d, %d, want %d, %d", c.class, c.name, nth, typ, c.nth, c.typ)
		}
	}
}

// P5.1, P5.2: no call panics, whatever tree, and whatever names, it is given.
func TestNoTrees(t *testing.T) {
	const text = "looper a; class C { x int; y C; } var g C; fn p { } comp m on a { stop { } } event e on a on { } main { var v C = new C; v.x = g.y.x + 1; call fn { log v.x; }; p = v; }"
	good, right := resolved(t, text)
	ask := func(x api.Tree, n api.Names) {
		if l, wrong := Check(x, n); len(l) > 0 && (len(wrong) > 0 || len(l) != len(x.Twigs)) {
			t.Errorf("%d types of %d twigs, and %v", len(l), len(x.Twigs), wrong)
		}
		for i := -2; i < len(x.Twigs)+2; i++ {
			Of(x, n, i)
			for _, name := range []string{"x", "y", "", "z"} {
				Member(x, n, api.Type(-i), name)
			}
		}
	}
	ask(api.Tree{}, api.Names{})
	ask(api.Tree{}, right)
	ask(good, api.Names{})
	for i := range good.Twigs {
		if typ := Of(good, api.Names{}, i); typ < 0 {
			t.Errorf("of the twig %d, by which no class is meant: %d", i, typ)
		}
	}
	ask(api.Tree{Twigs: good.Twigs[:5]}, right)
	for i := range good.Twigs {
		for _, spoil := range []func(w *api.Twig){
			func(w *api.Twig) { w.Kind = 0 },
			func(w *api.Twig) { w.Kind = api.TwigFn + 1 },
			func(w *api.Twig) { w.Text = "9" },
			func(w *api.Twig) { w.Kids = nil },
			func(w *api.Twig) { w.Kids = []int{-1, 99, i} },
			func(w *api.Twig) { w.Kids = []int{99} },
			func(w *api.Twig) { w.Kids = []int{i, i, i} },
		} {
			x := api.Tree{Twigs: slices.Clone(good.Twigs)}
			spoil(&x.Twigs[i])
			ask(x, right)
		}
	}
	for _, k := range []int{-1, 0, 3, len(good.Twigs), math.MinInt, math.MaxInt} {
		for kind := api.MeanKind(-1); kind <= api.MeanEvent+1; kind++ {
			n := right
			n.Means = slices.Repeat([]api.Mean{{Kind: kind, N: k}}, len(good.Twigs))
			ask(good, n)
		}
		n := right
		n.Classes, n.Globals = []int{k}, []int{k}
		ask(good, n)
	}
	for _, short := range []api.Names{{Means: right.Means[:7]}, {Means: right.Means}, {Means: right.Means, Globals: right.Globals}, {Means: right.Means, Classes: right.Classes}} {
		ask(good, short)
	}
}

// P5.1: what is handed in is not changed, and what is answered shares no memory with it, or with another answer.
func TestKeepsApart(t *testing.T) {
	for _, text := range []string{
		"looper a; class C { x int; } var g C; main { var v C = g; log v.x; }",
		"looper a; main { log null; call 1; }",
	} {
		x, n := resolved(t, text)
		l, wrong := Check(x, n)
		y, m := resolved(t, text)
		want, told := Check(y, m)
		clear(l)
		clear(wrong)
		if !reflect.DeepEqual(x, y) || !reflect.DeepEqual(n, m) {
			t.Errorf("%q: what is handed in was changed", text)
		}
		l, wrong = Check(x, n)
		if !reflect.DeepEqual(l, want) || !reflect.DeepEqual(wrong, told) {
			t.Errorf("%q: %v, %v, want %v, %v", text, l, wrong, want, told)
		}
		for i := range x.Twigs {
			clear(x.Twigs[i].Kids)
		}
		clear(x.Twigs)
		clear(n.Means)
		if !reflect.DeepEqual(l, want) || !reflect.DeepEqual(wrong, told) {
			t.Errorf("%q: what is answered changes with what was handed in", text)
		}
	}
}

// P5.1: many levels of twigs, and many wrong ones, are no matter.
func TestLongPrograms(t *testing.T) {
	const many = 20000
	for _, c := range []struct {
		body  string
		wrong int
	}{
		{"log i" + strings.Repeat(" + i", many) + ";", 0},
		{"log f" + strings.Repeat(" + i", many) + ";", 1},
		{"log i" + strings.Repeat(" + f", many) + ";", many},
		{"log d" + strings.Repeat(".i", many) + ".e;", 0},
		{"log c" + strings.Repeat(".i", many) + ".e;", 1},
		{"log r" + strings.Repeat("[0]", many) + ";", 1},
		{strings.Repeat("log 1; ", many), 0},
		{strings.Repeat("log null; ", many), many},
		{"log " + strings.Repeat("fn { log ", 60) + "1" + strings.Repeat("; }", 60) + ";", 60},
		{strings.Repeat("if 1 { var x int = 1; log x; } ", many), 0},
	} {
		x, n := resolved(t, declared+" main { "+c.body+" }")
		l, wrong := Check(x, n)
		if len(wrong) != c.wrong || c.wrong == 0 && len(l) != len(x.Twigs) {
			t.Errorf("%.40q: %d are wrong, %d types of %d twigs", c.body, len(wrong), len(l), len(x.Twigs))
		}
	}
}

// P5.1: many members, and many points that ask for them, are no matter.
func TestManyMembers(t *testing.T) {
	const many = 20000
	var text strings.Builder
	text.WriteString("looper a; var m M; class M {")
	for i := range many {
		text.WriteString(" m" + strconv.Itoa(i) + " M;")
	}
	text.WriteString(" last int; } main { log m" + strings.Repeat(".m"+strconv.Itoa(many-1), many) + ".last; " + strings.Repeat("log m.none; ", many) + "}")
	x, n := resolved(t, text.String())
	if _, wrong := Check(x, n); len(wrong) != many {
		t.Errorf("%d are wrong", len(wrong))
	}
}
