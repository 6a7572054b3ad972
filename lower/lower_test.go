package lower

import (
	"reflect"
	"slices"
	"strconv"
	"strings"
	"testing"

	"detent/api"
	"detent/names"
	"detent/parse"
	"detent/types"
)

// resolved tells the tree of a text, what its names mean, and its types, of a text with none of which anything is wrong.
func resolved(t *testing.T, text string) (api.Tree, api.Names, []api.Type) {
	t.Helper()
	x, wrong := parse.Parse([]byte(text))
	if len(wrong) > 0 {
		t.Fatalf("Parse(%q): %v", text, wrong)
	}
	n, wrong := names.Resolve(x)
	if len(wrong) > 0 {
		t.Fatalf("Resolve of %q: %v", text, wrong)
	}
	l, wrong := types.Check(x, n)
	if len(wrong) > 0 {
		t.Fatalf("Check of %q: %v", text, wrong)
	}
	return x, n, l
}

// lowered tells the program of a text, by Lower and by Text.
func lowered(t *testing.T, text string) api.Prog {
	t.Helper()
	x, n, l := resolved(t, text)
	p, err := Lower(x, n, l)
	if err != api.OK {
		t.Fatalf("Lower of %q: %v", text, err)
	}
	q, wrong, err := Text([]byte(text))
	if err != api.OK || len(wrong) > 0 || !reflect.DeepEqual(p, q) {
		t.Fatalf("Text(%q): %v, %v, %v, want\n%v", text, q, wrong, err, p)
	}
	return p
}

// form is how an operation is told: its name, and what it has besides: A, B, C, N, and L.
type form struct {
	op   api.Op
	name string
	has  string
}

func forms() []form {
	return []form{
		{api.OpConst, "const", "AN"}, {api.OpMove, "move", "AB"}, {api.OpAdd, "add", "ABC"}, {api.OpSub, "sub", "ABC"}, {api.OpMul, "mul", "ABC"}, {api.OpLess, "less", "ABC"}, {api.OpSame, "same", "ABC"},
		{api.OpIt, "it", "A"}, {api.OpLoad, "load", "AN"}, {api.OpStore, "store", "AN"}, {api.OpCell, "cell", "AN"}, {api.OpGet, "get", "AB"}, {api.OpPut, "put", "AB"},
		{api.OpNew, "new", "AN"}, {api.OpField, "field", "ABN"}, {api.OpSetField, "setfield", "ABN"}, {api.OpArray, "array", "AB"}, {api.OpElem, "elem", "ABC"}, {api.OpSetElem, "setelem", "ABC"}, {api.OpLen, "len", "AB"},
		{api.OpClosure, "closure", "ANL"}, {api.OpCall, "call", "A"}, {api.OpPost, "post", "ABCN"}, {api.OpFront, "front", "ABC"}, {api.OpCancel, "cancel", "A"}, {api.OpEnable, "enable", "N"}, {api.OpDisable, "disable", "N"},
		{api.OpSpawn, "spawn", "AB"}, {api.OpJoin, "join", "A"}, {api.OpLog, "log", "A"}, {api.OpJump, "jump", "N"}, {api.OpZero, "zero", "AN"}, {api.OpRet, "ret", ""},
	}
}

// spell tells an instruction: its name, A, B, C as they are, #N, and L in brackets; what it should not have behind a '?'.
func spell(x api.Instr) string {
	f := forms()[x.Op-1]
	s := f.name
	for _, part := range []struct {
		name string
		n    int64
		mark string
	}{{"A", int64(x.A), ""}, {"B", int64(x.B), ""}, {"C", int64(x.C), ""}, {"N", x.N, "#"}} {
		switch {
		case strings.Contains(f.has, part.name):
			s += " " + part.mark + strconv.FormatInt(part.n, 10)
		case part.n != 0:
			s += " ?" + part.name
		}
	}
	switch {
	case strings.Contains(f.has, "L"):
		var l []string
		for _, cell := range x.L {
			l = append(l, strconv.Itoa(cell))
		}
		s += " [" + strings.Join(l, " ") + "]"
	case len(x.L) > 0:
		s += " ?L"
	}
	return s
}

// code tells a function's instructions; the last one, which must be ret, is left out.
func code(t *testing.T, f api.Func) string {
	t.Helper()
	var l []string
	for _, x := range f.Code {
		l = append(l, spell(x))
	}
	if len(l) == 0 || l[len(l)-1] != "ret" {
		t.Errorf("%s ends without ret: %v", f.Name, l)
		return ""
	}
	return strings.Join(l[:len(l)-1], "; ")
}

// declared has two of most things. Functions: p 0, q 1, e 2, k 3, main 4, and its closures from 5 on.
const declared = "looper a; looper b; class C { i int; c C; d D; } class D { t tok; h hand; r arr; e int; f fn; c C; } var i int; var r arr; var c C; var f fn; var t tok; var h hand; var d D; fn p { } fn q { } event e on a on { } event k on b off { }\n"

// main tells the program whose main function has some statements, behind what is declared.
func mainOf(t *testing.T, statements string) api.Prog {
	t.Helper()
	return lowered(t, declared+"main { "+statements+" }")
}

// P6.1: what each kind of term becomes.
func TestTerms(t *testing.T) {
	for _, c := range []struct{ statements, want string }{
		{"log 5;", "const 0 #5; log 0"},
		{"log 2147483647;", "const 0 #2147483647; log 0"},
		{"f = null;", "const 0 #0; store 0 #3"},
		{"log it;", "it 0; log 0"},
		// Names: of globals, of functions, of locals.
		{"log i;", "load 0 #0; log 0"},
		{"cancel t; join h;", "load 0 #4; cancel 0; load 1 #5; join 1"},
		{"call p; call q;", "closure 0 #0 []; call 0; closure 1 #1 []; call 1"},
		{"log p == q;", "closure 0 #0 []; closure 1 #1 []; same 2 0 1; log 2"},
		{"var x int = 1; log x;", "const 0 #1; log 0"},
		{"var x int = 1; log x; log x + x;", "const 0 #1; log 0; add 1 0 0; log 1"},
		// Points, brackets.
		{"log c.i;", "load 0 #2; field 1 0 #0; log 1"},
		{"log c.c.d.e;", "load 0 #2; field 1 0 #1; field 2 1 #2; field 3 2 #3; log 3"},
		{"log (new D).c.i;", "new 0 #1; field 1 0 #5; field 2 1 #0; log 2"},
		{"log r[i];", "load 0 #1; load 1 #0; elem 2 0 1; log 2"},
		{"log d.r[i + 1];", "load 0 #6; field 1 0 #2; load 2 #0; const 3 #1; add 4 2 3; elem 5 1 4; log 5"},
		{"log (arr 2)[0];", "const 0 #2; array 1 0; const 2 #0; elem 3 1 2; log 3"},
		{"var x D = d; log x.r[x.e];", "load 0 #6; field 1 0 #2; field 2 0 #3; elem 3 1 2; log 3"},
		// Signs.
		{"log 1 + 2;", "const 0 #1; const 1 #2; add 2 0 1; log 2"},
		{"log 1 - 2;", "const 0 #1; const 1 #2; sub 2 0 1; log 2"},
		{"log 1 * 2;", "const 0 #1; const 1 #2; mul 2 0 1; log 2"},
		{"log 1 < 2;", "const 0 #1; const 1 #2; less 2 0 1; log 2"},
		{"log 1 == 2;", "const 0 #1; const 1 #2; same 2 0 1; log 2"},
		{"log c == null;", "load 0 #2; const 1 #0; same 2 0 1; log 2"},
		{"log null == null;", "const 0 #0; const 1 #0; same 2 0 1; log 2"},
		{"log 1 - 2 - 3;", "const 0 #1; const 1 #2; sub 2 0 1; const 3 #3; sub 4 2 3; log 4"},
		{"log 1 - (2 - 3);", "const 0 #1; const 1 #2; const 2 #3; sub 3 1 2; sub 4 0 3; log 4"},
		{"log 1 + 2 * 3 < 4;", "const 0 #1; const 1 #2; const 2 #3; mul 3 1 2; add 4 0 3; const 5 #4; less 6 4 5; log 6"},
		{"log (1 + 2) * (3 + 4);", "const 0 #1; const 1 #2; add 2 0 1; const 3 #3; const 4 #4; add 5 3 4; mul 6 2 5; log 6"},
		{"var x int = 1; var y int = 2; log x * y - x;", "const 0 #1; const 1 #2; mul 2 0 1; sub 3 2 0; log 3"},
		// new, arr, len.
		{"c = new C; d = new D;", "new 0 #0; store 0 #2; new 1 #1; store 1 #6"},
		{"r = arr 3;", "const 0 #3; array 1 0; store 1 #1"},
		{"r = arr len r;", "load 0 #1; len 1 0; array 2 1; store 2 #1"},
		{"var x arr = r; log len x;", "load 0 #1; len 1 0; log 1"},
		// Closures.
		{"f = fn { };", "closure 0 #5 []; store 0 #3"},
		{"call fn { call fn { }; }; f = fn { };", "closure 0 #5 []; call 0; closure 1 #7 []; store 1 #3"},
	} {
		if got := code(t, mainOf(t, c.statements).Funcs[4]); got != c.want {
			t.Errorf("%q: %s, want %s", c.statements, got, c.want)
		}
	}
}

// P6.1: what each kind of statement becomes.
func TestStatements(t *testing.T) {
	for _, c := range []struct{ statements, want string }{
		{"", ""},
		{"call f; cancel t; join h; log i;", "load 0 #3; call 0; load 1 #4; cancel 1; load 2 #5; join 2; load 3 #0; log 3"},
		{"var x fn = f; call x; var y tok = t; cancel y; var z hand = h; join z;", "load 0 #3; call 0; load 1 #4; cancel 1; load 2 #5; join 2"},
		{"enable e; disable e; enable k; disable k;", "enable #0; disable #0; enable #1; disable #1"},
		{"return;", "ret"},
		{"return; log 1; return;", "ret; const 0 #1; log 0; ret"},
		// Posts, spawns.
		{"post a p; post b q;", "closure 0 #0 []; post 1 0 0 #0; closure 2 #1 []; post 3 2 1 #0"},
		{"post b f after 7;", "load 0 #3; post 1 0 1 #7"},
		{"post b f after 0;", "load 0 #3; post 1 0 1 #0"},
		{"post b f after 1000000;", "load 0 #3; post 1 0 1 #1000000"},
		{"post b f front; post a fn { } front;", "load 0 #3; front 1 0 1; closure 2 #5 []; front 3 2 0"},
		{"spawn f; spawn fn { };", "load 0 #3; spawn 1 0; closure 2 #5 []; spawn 3 2"},
		{"var x fn = p; post a x; spawn x; log 1;", "closure 0 #0 []; post 1 0 0 #0; spawn 2 0; const 3 #1; log 3"},
		// if, while.
		{"if i { }", "load 0 #0; zero 0 #3; jump #3"},
		{"if i { log 1; }", "load 0 #0; zero 0 #5; const 1 #1; log 1; jump #5"},
		{"if i { log 1; } else { log 2; } log 3;", "load 0 #0; zero 0 #5; const 1 #1; log 1; jump #7; const 2 #2; log 2; const 3 #3; log 3"},
		{"if i { } else { log 2; }", "load 0 #0; zero 0 #3; jump #5; const 1 #2; log 1"},
		{"var x int = 1; if x { x = 0; }", "const 0 #1; zero 0 #5; const 1 #0; move 0 1; jump #5"},
		{"if i { if r[0] { log 1; } else { return; } } else { if 0 { } }", "load 0 #0; zero 0 #11; load 1 #1; const 2 #0; elem 3 1 2; zero 3 #9; const 4 #1; log 4; jump #10; ret; jump #14; const 5 #0; zero 5 #14; jump #14"},
		{"while i { }", "load 0 #0; zero 0 #3; jump #0"},
		{"log 1; while i < 2 { log 3; } log 4;", "const 0 #1; log 0; load 1 #0; const 2 #2; less 3 1 2; zero 3 #9; const 4 #3; log 4; jump #2; const 5 #4; log 5"},
		{"var x int = 1; while x { x = x - 1; }", "const 0 #1; zero 0 #6; const 1 #1; sub 2 0 1; move 0 2; jump #1"},
		{"while 1 { while 2 { return; } if 3 { } }", "const 0 #1; zero 0 #10; const 1 #2; zero 1 #6; ret; jump #2; const 2 #3; zero 2 #9; jump #9; jump #0"},
	} {
		if got := code(t, mainOf(t, c.statements).Funcs[4]); got != c.want {
			t.Errorf("%q: %s, want %s", c.statements, got, c.want)
		}
	}
}

// P6.1: what is set, or goes, to each kind of variable: first its parts, if it is set, else behind what goes there.
func TestVariables(t *testing.T) {
	for _, c := range []struct{ statements, want string }{
		// A local has its term's register, or, if that is a local's, one of its own.
		{"var x int = 1; var y int = i; var z int = x + y; log z;", "const 0 #1; load 1 #0; add 2 0 1; log 2"},
		{"var x int = 1; var y int = x; var z int = y; log z;", "const 0 #1; move 1 0; move 2 1; log 2"},
		{"var x int = 1; if x { var x int = x; log x; } log x;", "const 0 #1; zero 0 #5; move 1 0; log 1; jump #5; log 0"},
		{"if 1 { var x int = 2; log x; } if 3 { var x int = 4; log x; }", "const 0 #1; zero 0 #5; const 1 #2; log 1; jump #5; const 2 #3; zero 2 #10; const 3 #4; log 3; jump #10"},
		{"while 1 { var x fn = f; call x; }", "const 0 #1; zero 0 #5; load 1 #3; call 1; jump #0"},
		{"var x fn = fn { }; var y C = new C; var z arr = arr 1; var w int = len z; log w; z = null;", "closure 0 #5 []; new 1 #0; const 2 #1; array 3 2; len 4 3; log 4; const 5 #0; move 3 5"},
		// Set: a local.
		{"var x int = 1; x = 2; x = i;", "const 0 #1; const 1 #2; move 0 1; load 2 #0; move 0 2"},
		{"var x int = 1; var y int = 2; x = y; y = y; x = x + y;", "const 0 #1; const 1 #2; move 0 1; move 1 1; add 2 0 1; move 0 2"},
		// A global.
		{"i = 1; i = i;", "const 0 #1; store 0 #0; load 1 #0; store 1 #0"},
		{"var x int = 1; i = x; f = p;", "const 0 #1; store 0 #0; closure 1 #0 []; store 1 #3"},
		// A point: what stands ahead of it comes first.
		{"c.i = 1;", "load 0 #2; const 1 #1; setfield 0 1 #0"},
		{"c.c.d.e = c.i;", "load 0 #2; field 1 0 #1; field 2 1 #2; load 3 #2; field 4 3 #0; setfield 2 4 #3"},
		{"var x C = c; x.d = x.d; x.i = x.i; x = x.c;", "load 0 #2; field 1 0 #2; setfield 0 1 #2; field 2 0 #0; setfield 0 2 #0; field 3 0 #1; move 0 3"},
		{"var x C = new C; var y D = null; x.d = y;", "new 0 #0; const 1 #0; setfield 0 1 #2"},
		{"(new C).i = 1;", "new 0 #0; const 1 #1; setfield 0 1 #0"},
		// A bracket: both of its parts come first.
		{"r[1] = 2;", "load 0 #1; const 1 #1; const 2 #2; setelem 0 1 2"},
		{"r[r[0]] = r[i];", "load 0 #1; load 1 #1; const 2 #0; elem 3 1 2; load 4 #1; load 5 #0; elem 6 4 5; setelem 0 3 6"},
		{"var x arr = r; var y int = 0; x[y] = y; x[y] = x[y];", "load 0 #1; const 1 #0; setelem 0 1 1; elem 2 0 1; setelem 0 1 2"},
		{"d.r[d.e] = 3;", "load 0 #6; field 1 0 #2; load 2 #6; field 3 2 #3; const 4 #3; setelem 1 3 4"},
		// What goes somewhere: behind its own register, the variable's parts.
		{"post a f to t; post b p front to t; post a q after 3 to t;", "load 0 #3; post 1 0 0 #0; store 1 #4; closure 2 #0 []; front 3 2 1; store 3 #4; closure 4 #1 []; post 5 4 0 #3; store 5 #4"},
		{"var x tok = null; post a f to x; spawn f;", "const 0 #0; load 1 #3; post 2 1 0 #0; move 0 2; load 3 #3; spawn 4 3"},
		{"post a f to d.t; post b f front to c.d.t;", "load 0 #3; post 1 0 0 #0; load 2 #6; setfield 2 1 #0; load 3 #3; front 4 3 1; load 5 #2; field 6 5 #2; setfield 6 4 #0"},
		{"spawn f to h; spawn p to d.h; log 1;", "load 0 #3; spawn 1 0; store 1 #5; closure 2 #0 []; spawn 3 2; load 4 #6; setfield 4 3 #1; const 5 #1; log 5"},
		{"var x D = d; var y fn = f; var z hand = h; spawn y to x.h; spawn y to z; join z;", "load 0 #6; load 1 #3; load 2 #5; spawn 3 1; setfield 0 3 #1; spawn 4 1; move 2 4; join 2"},
	} {
		if got := code(t, mainOf(t, c.statements).Funcs[4]); got != c.want {
			t.Errorf("%q: %s, want %s", c.statements, got, c.want)
		}
	}
}

// P6.1: locals that are captured: their cells, in the function that has them, and in those that capture them.
func TestCaptured(t *testing.T) {
	for _, c := range []struct {
		statements string
		want       []string
	}{
		// The chapter's example.
		{"var x int = 1; call fn { x = it; };", []string{"const 0 #1; cell 1 #1; put 1 0; closure 2 #5 [1]; call 2", "it 1; put 0 1"}},
		// The function that has it takes it from its cell, too, and sets it there.
		{"var x int = 1; call fn { log x; }; log x; x = 2; x = x;", []string{"const 0 #1; cell 1 #1; put 1 0; closure 2 #5 [1]; call 2; get 3 1; log 3; const 4 #2; put 1 4; get 5 1; put 1 5", "get 1 0; log 1"}},
		{"var x int = 1; log x; call fn { log x; };", []string{"const 0 #1; cell 1 #1; put 1 0; get 2 1; log 2; closure 3 #5 [1]; call 3", "get 1 0; log 1"}},
		// Behind a local that nobody captures its cell has a register, and it has none itself.
		{"var y int = 1; var x int = y; call fn { log x; }; log y;", []string{"const 0 #1; cell 1 #1; put 1 0; closure 2 #5 [1]; call 2; log 0", "get 1 0; log 1"}},
		// What takes the value of a captured one has the register of that value.
		{"var x int = 1; var y int = x; call fn { log x; }; log y;", []string{"const 0 #1; cell 1 #1; put 1 0; get 2 1; closure 3 #5 [1]; call 3; log 2", "get 1 0; log 1"}},
		{"var x int = 1; var y int = x; call fn { log x + y; };", []string{"const 0 #1; cell 1 #1; put 1 0; get 2 1; cell 3 #1; put 3 2; closure 4 #5 [1 3]; call 4", "get 2 0; get 3 1; add 4 2 3; log 4"}},
		// Cells are of their locals' types.
		{"var x fn = f; var y tok = t; var z hand = null; var u arr = r; var v C = null; var w D = d; call fn { x = null; y = null; z = null; u = null; v = null; w = null; };", []string{
			"load 0 #3; cell 1 #2; put 1 0; load 2 #4; cell 3 #3; put 3 2; const 4 #0; cell 5 #4; put 5 4; load 6 #1; cell 7 #5; put 7 6; const 8 #0; cell 9 #-1; put 9 8; load 10 #6; cell 11 #-2; put 11 10; closure 12 #5 [1 3 5 7 9 11]; call 12",
			"const 6 #0; put 0 6; const 7 #0; put 1 7; const 8 #0; put 2 8; const 9 #0; put 3 9; const 10 #0; put 4 10; const 11 #0; put 5 11"}},
		// In the order in which the function captures them, not in that in which they stand.
		{"var x int = 1; var y int = 2; call fn { log y; log x; log y; };", []string{"const 0 #1; cell 1 #1; put 1 0; const 2 #2; cell 3 #1; put 3 2; closure 4 #5 [3 1]; call 4", "get 2 0; log 2; get 3 1; log 3; get 4 0; log 4"}},
		// A function between captures what an inner one does.
		{"var x int = 1; call fn { call fn { x = 2; }; };", []string{"const 0 #1; cell 1 #1; put 1 0; closure 2 #5 [1]; call 2", "closure 1 #6 [0]; call 1", "const 1 #2; put 0 1"}},
		{"var x int = 1; var y int = 2; call fn { call fn { log y; }; log x; call fn { x = y; }; };", []string{
			"const 0 #1; cell 1 #1; put 1 0; const 2 #2; cell 3 #1; put 3 2; closure 4 #5 [3 1]; call 4", "closure 2 #6 [0]; call 2; get 3 1; log 3; closure 4 #7 [1 0]; call 4", "get 1 0; log 1", "get 2 1; put 0 2"}},
		// A local of an inner function, that an inner one of that captures, beside an outer one.
		{"var x int = 1; call fn { var y int = x; call fn { y = x; }; log y; };", []string{"const 0 #1; cell 1 #1; put 1 0; closure 2 #5 [1]; call 2", "get 1 0; cell 2 #1; put 2 1; closure 3 #6 [2 0]; call 3; get 4 2; log 4", "get 2 1; put 0 2"}},
		// The registers of a function are its own: one that is not captured has one in each function that has such a name.
		{"var x int = 1; log x; call fn { var x int = 2; log x; };", []string{"const 0 #1; log 0; closure 1 #5 []; call 1", "const 0 #2; log 0"}},
		// Two closures hold one cell.
		{"var x int = 1; call fn { x = 2; }; call fn { log x; };", []string{"const 0 #1; cell 1 #1; put 1 0; closure 2 #5 [1]; call 2; closure 3 #6 [1]; call 3", "const 1 #2; put 0 1", "get 1 0; log 1"}},
		// Each time round there is a new cell.
		{"while i { var x int = it; spawn fn { x = 2; }; }", []string{"load 0 #0; zero 0 #8; it 1; cell 2 #1; put 2 1; closure 3 #5 [2]; spawn 4 3; jump #0", "const 1 #2; put 0 1"}},
		// Parts of what is set, what goes to a captured one.
		{"var x C = c; call fn { x.i = 1; x.d.r[x.i] = x.i; };", []string{"load 0 #2; cell 1 #-1; put 1 0; closure 2 #5 [1]; call 2",
			"get 1 0; const 2 #1; setfield 1 2 #0; get 3 0; field 4 3 #2; field 5 4 #2; get 6 0; field 7 6 #0; get 8 0; field 9 8 #0; setelem 5 7 9"}},
		{"var x tok = null; post a fn { cancel x; } to x; call fn { post b f front to x; };", []string{"const 0 #0; cell 1 #3; put 1 0; closure 2 #5 [1]; post 3 2 0 #0; put 1 3; closure 4 #6 [1]; call 4", "get 1 0; cancel 1", "load 1 #3; front 2 1 1; put 0 2"}},
		{"var x hand = null; spawn fn { join x; } to x; join x;", []string{"const 0 #0; cell 1 #4; put 1 0; closure 2 #5 [1]; spawn 3 2; put 1 3; get 4 1; join 4", "get 1 0; join 1"}},
		// A closure behind a term's other parts: it takes no cell's register but those that are there.
		{"var x fn = null; x = fn { call x; }; log x == fn { call x; };", []string{"const 0 #0; cell 1 #2; put 1 0; closure 2 #5 [1]; put 1 2; get 3 1; closure 4 #6 [1]; same 5 3 4; log 5", "get 1 0; call 1", "get 1 0; call 1"}},
		// The outer one of two of one name.
		{"var x fn = f; if 1 { var x fn = fn { call x; }; call x; }", []string{"load 0 #3; cell 1 #2; put 1 0; const 2 #1; zero 2 #8; closure 3 #5 [1]; call 3; jump #8", "get 1 0; call 1"}},
	} {
		p := mainOf(t, c.statements)
		var got []string
		for _, f := range p.Funcs[4:] {
			got = append(got, code(t, f))
		}
		if !slices.Equal(got, c.want) {
			t.Errorf("%q:\n%s\nwant\n%s", c.statements, strings.Join(got, "\n"), strings.Join(c.want, "\n"))
		}
	}
}

// P6.1: a function's captures, and how many registers it has.
func TestRegs(t *testing.T) {
	for _, c := range []struct{ statements, want string }{
		{"", "main 0 0"},
		{"return;", "main 0 0"},
		{"enable e;", "main 0 0"},
		{"log 1;", "main 0 1"},
		{"var x int = 1; x = x;", "main 0 1"},
		{"var x int = 1; var y int = x;", "main 0 2"},
		{"i = 1 + 2;", "main 0 3"},
		{"post a f;", "main 0 2"},
		{"spawn f;", "main 0 2"},
		{"if 1 { log 2; } else { log 3; }", "main 0 3"},
		{"var x int = 1; call fn { x = it; };", "main 0 3, main.1 1 2"},
		{"var x int = 1; var y int = 2; call fn { call fn { x = 3; log y; }; };", "main 0 5, main.1 2 3, main.2 2 4"},
	} {
		var l []string
		for _, f := range mainOf(t, c.statements).Funcs[4:] {
			l = append(l, f.Name+" "+strconv.Itoa(f.Captures)+" "+strconv.Itoa(f.Regs))
		}
		if got := strings.Join(l, ", "); got != c.want {
			t.Errorf("%q: %s, want %s", c.statements, got, c.want)
		}
	}
}

// P6.1: the chapter's examples, with all that an instruction has.
func TestExamples(t *testing.T) {
	p := lowered(t, "looper a; var f int; var g int; main\n{ var x int = 1;\ng = x + 2; }")
	want := api.Prog{
		Loopers: []string{"a"},
		Globals: []api.Global{{Name: "f", Type: api.TypeInt}, {Name: "g", Type: api.TypeInt}},
		Funcs: []api.Func{{Name: "main", Regs: 3, Code: []api.Instr{
			{Op: api.OpConst, A: 0, N: 1, Site: -1, Line: 2},
			{Op: api.OpConst, A: 1, N: 2, Site: -1, Line: 3},
			{Op: api.OpAdd, A: 2, B: 0, C: 1, Site: -1, Line: 3},
			{Op: api.OpStore, A: 2, N: 1, Site: 0, Line: 3},
			{Op: api.OpRet, Site: -1, Line: 1},
		}}},
		Sites: []api.Site{{Func: 0, At: 3}},
	}
	if !reflect.DeepEqual(p, want) {
		t.Errorf("%v, want\n%v", p, want)
	}
	p = lowered(t, "looper a; main { var x int = 1;\ncall fn {\nx = it; }; }")
	want = api.Prog{
		Loopers: []string{"a"},
		Funcs: []api.Func{{Name: "main", Regs: 3, Code: []api.Instr{
			{Op: api.OpConst, A: 0, N: 1, Site: -1, Line: 1},
			{Op: api.OpCell, A: 1, N: int64(api.TypeInt), Site: 0, Line: 1},
			{Op: api.OpPut, A: 1, B: 0, Site: 1, Line: 1},
			{Op: api.OpClosure, A: 2, N: 1, L: []int{1}, Site: 2, Line: 2},
			{Op: api.OpCall, A: 2, Site: 3, Line: 2},
			{Op: api.OpRet, Site: -1, Line: 1},
		}}, {Name: "main.1", Captures: 1, Regs: 2, Code: []api.Instr{
			{Op: api.OpIt, A: 1, Site: -1, Line: 3},
			{Op: api.OpPut, A: 0, B: 1, Site: 4, Line: 3},
			{Op: api.OpRet, Site: -1, Line: 2},
		}}},
		Sites: []api.Site{{Func: 0, At: 1}, {Func: 0, At: 2}, {Func: 0, At: 3}, {Func: 0, At: 4}, {Func: 1, At: 1}},
	}
	if !reflect.DeepEqual(p, want) {
		t.Errorf("%v, want\n%v", p, want)
	}
}

// P6.1: all that is declared, numbered as it stands, wherever that is.
func TestDeclared(t *testing.T) {
	p := lowered(t, "var z D; event e on c off { } main { } comp m on b { destroy { } create { } } class C { } looper a; var y C; fn p { call fn { }; } comp k on a { } looper b; class D { x D; y C; i int; f fn; t tok; h hand; r arr; } event d on a on { } var x int; comp l on c { stop { } start { } destroy { } create { } } looper c; var w fn; var v tok; var u hand; var s arr; fn q { }")
	if want := []string{"a", "b", "c"}; !slices.Equal(p.Loopers, want) {
		t.Errorf("loopers %v, want %v", p.Loopers, want)
	}
	classes := []api.Class{{Name: "C"}, {Name: "D", Names: []string{"x", "y", "i", "f", "t", "h", "r"}, Fields: []api.Type{-2, -1, api.TypeInt, api.TypeFn, api.TypeToken, api.TypeHand, api.TypeArray}}}
	if !reflect.DeepEqual(p.Classes, classes) {
		t.Errorf("classes %v, want %v", p.Classes, classes)
	}
	if want := []api.Global{{Name: "z", Type: -2}, {Name: "y", Type: -1}, {Name: "x", Type: api.TypeInt}, {Name: "w", Type: api.TypeFn}, {Name: "v", Type: api.TypeToken}, {Name: "u", Type: api.TypeHand}, {Name: "s", Type: api.TypeArray}}; !slices.Equal(p.Globals, want) {
		t.Errorf("globals %v, want %v", p.Globals, want)
	}
	var l []string
	for _, f := range p.Funcs {
		l = append(l, f.Name)
	}
	if want := []string{"e", "main", "m.destroy", "m.create", "p", "p.1", "d", "l.stop", "l.start", "l.destroy", "l.create", "q"}; !slices.Equal(l, want) || p.Main != 1 {
		t.Errorf("functions %v, main %d, want %v, main 1", l, p.Main, want)
	}
	if want := []api.Comp{{Name: "m", Looper: 1, Funcs: [4]int{3, -1, -1, 2}}, {Name: "k", Looper: 0, Funcs: [4]int{-1, -1, -1, -1}}, {Name: "l", Looper: 2, Funcs: [4]int{10, 8, 7, 9}}}; !slices.Equal(p.Comps, want) {
		t.Errorf("components %v, want %v", p.Comps, want)
	}
	if want := []api.Event{{Name: "e", Looper: 2, On: false, Func: 0}, {Name: "d", Looper: 0, On: true, Func: 6}}; !slices.Equal(p.Events, want) {
		t.Errorf("events %v, want %v", p.Events, want)
	}
}

// P6.1: each kind of function has the code of its own block.
func TestFunctions(t *testing.T) {
	p := lowered(t, "looper a; comp m on a { start { log 1; } destroy { } create { log 2; } } event e on a on { log 3; } fn p { log 4; call fn { log 5; call fn { log 6; }; }; call fn { log 7; }; } main { log 8; call fn { log 9; }; }")
	var got []string
	for _, f := range p.Funcs {
		got = append(got, f.Name+": "+code(t, f))
	}
	want := []string{
		"m.start: const 0 #1; log 0", "m.destroy: ", "m.create: const 0 #2; log 0", "e: const 0 #3; log 0",
		"p: const 0 #4; log 0; closure 1 #5 []; call 1; closure 2 #7 []; call 2", "p.1: const 0 #5; log 0; closure 1 #6 []; call 1", "p.2: const 0 #6; log 0", "p.3: const 0 #7; log 0",
		"main: const 0 #8; log 0; closure 1 #9 []; call 1", "main.1: const 0 #9; log 0",
	}
	if !slices.Equal(got, want) {
		t.Errorf("%s\nwant\n%s", strings.Join(got, "\n"), strings.Join(want, "\n"))
	}
}

// P6.1: sites are numbered function by function, instruction by instruction; what is no site has -1.
func TestSites(t *testing.T) {
	p := lowered(t, "looper a; var r arr; comp m on a { create { log len r; } stop { } } fn p { var x int = 1; call fn { x = it; }; r[0] = x; } main { post a p; while 1 { } spawn p; }")
	var got []string
	for _, f := range p.Funcs {
		var l []string
		for _, x := range f.Code {
			l = append(l, strings.Fields(spell(x))[0]+" "+strconv.Itoa(x.Site))
		}
		got = append(got, strings.Join(l, ", "))
	}
	want := []string{
		"load 0, len -1, log 1, ret -1",
		"ret -1",
		"const -1, cell 2, put 3, closure 4, call 5, load 6, const -1, get 7, setelem 8, ret -1",
		"it -1, put 9, ret -1",
		"closure 10, post 11, const -1, zero -1, jump -1, closure 12, spawn 13, ret -1",
	}
	if !slices.Equal(got, want) {
		t.Errorf("%s\nwant\n%s", strings.Join(got, "\n"), strings.Join(want, "\n"))
	}
	for i, want := range [][2]int{{0, 0}, {0, 2}, {2, 1}, {2, 2}, {2, 3}, {2, 4}, {2, 5}, {2, 7}, {2, 8}, {3, 1}, {4, 0}, {4, 1}, {4, 5}, {4, 6}} {
		if got := p.Sites[i]; got != (api.Site{Func: want[0], At: want[1]}) || len(p.Sites) != 14 {
			t.Errorf("site %d of %d: %v, want %v", i, len(p.Sites), got, want)
		}
	}
}

// P6.1: an instruction's line is its twig's: of a sign, a point, a bracket theirs; of what is set its statement's; at the end the function's.
func TestLines(t *testing.T) {
	for _, c := range []struct{ text, want string }{
		{"log\n5\n;", "const 2, log 1, ret 0"},
		{"log 1\n+\n2;", "const 1, const 3, add 2, log 1, ret 0"},
		{"log c\n.\ni;", "load 1, field 2, log 1, ret 0"},
		{"log r\n[\n0];", "load 1, const 3, elem 2, log 1, ret 0"},
		{"r\n=\narr\nlen\nr;", "load 5, len 4, array 3, store 1, ret 0"},
		{"i\n=\nit;", "it 3, store 1, ret 0"},
		{"c\n.\ni\n=\n3;", "load 1, const 5, setfield 1, ret 0"},
		{"r\n[\n1\n]\n=\n2;", "load 1, const 3, const 6, setelem 1, ret 0"},
		{"var\nx\nint\n=\n1;\nx\n=\n2;", "const 5, const 8, move 6, ret 0"},
		{"var x int = 1; var\ny int =\nx;", "const 1, move 1, ret 0"},
		{"var\nx int =\n1; call\nfn {\nx\n=\n2; };", "const 3, cell 1, put 1, closure 4, call 3, ret 0 / const 7, put 5, ret 4"},
		{"post\na\nf\nto\nt;", "load 3, post 1, store 1, ret 0"},
		{"post\na\nf\nfront to\nd\n.\nt;", "load 3, front 1, load 5, setfield 1, ret 0"},
		{"var x tok = null; post a f to\nx;", "const 1, load 1, post 1, move 1, ret 0"},
		{"var x tok = null; call fn { cancel x; post a f to\nx; };", "const 1, cell 1, put 1, closure 1, call 1, ret 0 / get 1, cancel 1, load 1, post 1, put 1, ret 1"},
		{"spawn\np\nto\nd.h\n;", "closure 2, spawn 1, load 4, setfield 1, ret 0"},
		{"enable\ne; disable\ne; return\n;", "enable 1, disable 2, ret 3, ret 0"},
		{"if\ni\n{\nlog 1; }\nelse\n{ log\n2; }", "load 2, zero 1, const 4, log 4, jump 1, const 7, log 6, ret 0"},
		{"while\ni\n{\nlog\n1; }", "load 2, zero 1, const 5, log 4, jump 1, ret 0"},
		{"c = \nnew\nC; f = \nnull;", "new 2, store 1, const 4, store 3, ret 0"},
	} {
		// Main stands on the line 3, its statements from 4 on: told are lines from there on.
		p := lowered(t, "\n"+declared+"main {\n"+c.text+" }")
		var got []string
		for _, f := range p.Funcs[4:] {
			var l []string
			for _, x := range f.Code {
				l = append(l, strings.Fields(spell(x))[0]+" "+strconv.Itoa(x.Line-3))
			}
			got = append(got, strings.Join(l, ", "))
		}
		if s := strings.Join(got, " / "); s != c.want {
			t.Errorf("%q: %s, want %s", c.text, s, c.want)
		}
	}
	p := lowered(t, "looper a;\ncomp m on a {\nstart\n{\n} create { } }\nevent\ne on\na on\n{ }\nfn\np\n{\n}\nmain\n{ }")
	var got []int
	for _, f := range p.Funcs {
		got = append(got, f.Code[0].Line)
	}
	if want := []int{3, 5, 6, 10, 14}; !slices.Equal(got, want) {
		t.Errorf("lines of functions' ends: %v, want %v", got, want)
	}
}

// P6.1: a line is a twig's, whatever that is.
func TestLinesAsTheyAre(t *testing.T) {
	x, n, l := resolved(t, "looper a; main { log 1; }")
	for i := range x.Twigs {
		x.Twigs[i].Line = 100 - 7*i
	}
	p, err := Lower(x, n, l)
	if err != api.OK {
		t.Fatal(err)
	}
	for i, want := range []api.TwigKind{api.TwigNumber, api.TwigLog, api.TwigMain} {
		at := slices.IndexFunc(x.Twigs, func(w api.Twig) bool { return w.Kind == want })
		if got := p.Funcs[0].Code[i].Line; got != x.Twigs[at].Line {
			t.Errorf("line %d, want %d", got, x.Twigs[at].Line)
		}
	}
}

// P6.3: what touches something shared, or makes something, is a site; nothing else is, nor a number that is no operation.
func TestIsSite(t *testing.T) {
	sites := []api.Op{
		api.OpLoad, api.OpStore, api.OpCell, api.OpGet, api.OpPut, api.OpNew, api.OpField, api.OpSetField, api.OpArray, api.OpElem, api.OpSetElem,
		api.OpClosure, api.OpCall, api.OpPost, api.OpFront, api.OpCancel, api.OpEnable, api.OpDisable, api.OpSpawn, api.OpJoin, api.OpLog,
	}
	others := []api.Op{
		api.OpConst, api.OpMove, api.OpAdd, api.OpSub, api.OpMul, api.OpLess, api.OpSame, api.OpIt, api.OpLen, api.OpJump, api.OpZero, api.OpRet,
		0, -1, -9, -20, api.OpRet + 1, api.OpRet + 9, 100, 1 << 40, -1 << 40,
	}
	for _, op := range sites {
		if !IsSite(op) {
			t.Errorf("IsSite(%d): no", op)
		}
	}
	for _, op := range others {
		if IsSite(op) {
			t.Errorf("IsSite(%d): yes", op)
		}
	}
	if got := len(sites) + len(others) - 9; got != int(api.OpRet) {
		t.Errorf("%d operations, want %d", got, api.OpRet)
	}
}
