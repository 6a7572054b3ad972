package trace_test

import (
	"fmt"
	"math"
	"math/rand"
	"reflect"
	"slices"
	"strings"
	"testing"

	"detent/api"
	"detent/machine"
	"detent/script"
	"detent/trace"
)

// wantFinal holds how a machine ended against what must be told of it.
func wantFinal(t *testing.T, what string, p api.Prog, m *machine.Machine, want api.Final) {
	t.Helper()
	was := m.Copy()
	got := trace.Final(p, m)
	for _, x := range []struct {
		part      string
		got, want []string
	}{
		{"globals", got.Globals, want.Globals}, {"objects", got.Objects, want.Objects}, {"log", got.Log, want.Log}, {"traps", got.Traps, want.Traps},
	} {
		if !slices.Equal(x.got, x.want) {
			t.Errorf("%s: %s %q, want %q", what, x.part, x.got, x.want)
		}
	}
	if !trace.SameFinal(got, want) || !trace.SameFinal(got, trace.Final(p, m)) {
		t.Errorf("%s: it is not the same as it must be", what)
	}
	if !m.Same(was) {
		t.Errorf("%s: Final changes the machine", what)
	}
}

// P13.4: ends of whole programs, by hand: globals, objects and cells of each type, the log, faults.
func TestFinal(t *testing.T) {
	for _, c := range []struct {
		what, text, outer string
		want              api.Final
	}{
		{"nothing", "looper ui; main { }", "", api.Final{}},
		{"a global, the log", "looper ui; var g int; var h int; main { g = 0 - 7; log 5; log 0 - 5; log g; log 5; }", "", api.Final{Globals: []string{"-7", "0"}, Log: []string{"5", "-5", "-7", "5"}}},
		{"globals of each type, of nothing", "looper ui; class C { } var i int; var f fn; var k tok; var h hand; var a arr; var c C; main { }", "", api.Final{Globals: []string{"0", "-", "-", "-", "-", "-"}}},
		{
			"globals of each type", "looper ui; class C { } var i int; var f fn; var k tok; var h hand; var a arr; var c C; main { i = 12; f = fn { }; post ui f to k; spawn f to h; a = arr 0; c = new C; }", "",
			api.Final{Globals: []string{"12", "m#0", "m/0", "m/1", "m#1", "m#2"}, Objects: []string{"m#0=f1", "m#1=", "m#2="}},
		}, {
			"fields of each type, of nothing", "looper ui; class C { i int; f fn; k tok; h hand; a arr; c C; } var c C; main { c = new C; }", "",
			api.Final{Globals: []string{"m#0"}, Objects: []string{"m#0= 0 - - - - -"}},
		}, {
			"fields of each type", "looper ui; class C { i int; f fn; k tok; h hand; a arr; c C; } var c C; main { c = new C; c.i = 0 - 1; c.f = fn { }; post ui c.f to c.k; spawn c.f to c.h; c.a = arr 2; c.c = c; }", "",
			api.Final{Globals: []string{"m#0"}, Objects: []string{"m#0= -1 m#1 m/0 m/1 m#2 m#0", "m#1=f1", "m#2= 0 0"}},
		}, {
			"an array", "looper ui; var a arr; main { a = arr 4; a[1] = 1; a[3] = 0 - 3; }", "",
			api.Final{Globals: []string{"m#0"}, Objects: []string{"m#0= 0 1 0 -3"}},
		}, {
			"cells of each type, and their closure",
			"looper ui; class C { } main { var i int = 4; var f fn = null; var k tok = null; var h hand = null; var a arr = null; var c C = null; f = fn { i = i; f = f; k = k; h = h; a = a; c = c; i = 9; }; post ui f to k; spawn f to h; a = arr 1; c = new C; }", "",
			api.Final{Objects: []string{"m#0= 9", "m#1= m#6", "m#2= m/0", "m#3= m/1", "m#4= m#7", "m#5= m#8", "m#6=f1 m#0 m#1 m#2 m#3 m#4 m#5", "m#7= 0", "m#8="}},
		}, {
			"objects that tasks of each kind made, by rising names",
			"looper ui; class C { n int; } var k C; comp c on ui { create { var x C = new C; x.n = 1; } } event e on ui on { var x C = new C; x.n = it; post ui fn { var x C = new C; x.n = 3; }; } main { var x C = new C; spawn fn { var x C = new C; x.n = 4; }; }", "life 0 0, inject 0 22, inject 0 23",
			api.Final{Globals: []string{"-"}, Objects: []string{"c0.0#0= 1", "e0.0#0= 22", "e0.0#1=f2", "e0.0/0#0= 3", "e0.1#0= 23", "e0.1#1=f2", "e0.1/0#0= 3", "m#0= 0", "m#1=f4", "m/0#0= 4"}},
		}, {
			"names rise, not lines: '#1' is ahead of '#10', but '#1=' is not", "looper ui; main { var i int = 0; while i < 12 { var a arr = arr 1; a[0] = i; i = i + 1; } }", "",
			api.Final{Objects: []string{"m#0= 0", "m#1= 1", "m#10= 10", "m#11= 11", "m#2= 2", "m#3= 3", "m#4= 4", "m#5= 5", "m#6= 6", "m#7= 7", "m#8= 8", "m#9= 9"}},
		}, {
			"faults of each kind", "looper ui; class C { i int; } main { spawn fn { var a arr = arr 3; a[3] = 1; }; spawn fn { var a arr = arr 65; }; spawn fn { log 1; }; var c C = null; log c.i; }", "",
			api.Final{Objects: []string{"m#0=f1", "m#1=f2", "m#2=f3", "m/0#0= 0 0 0"}, Log: []string{"1"}, Traps: []string{"m:1", "m/0:2", "m/1:3"}},
		}, {
			"faults rise by names: 'm' is ahead of 'm/1', that one of 'm/10'",
			"looper ui; fn fail { var no tok = null; cancel no; } comp c on ui { create { call fail; } } event e on ui on { log len arr it; } main { var i int = 0; while i < 11 { spawn fn { var no hand = null; join no; }; i = i + 1; } var no tok = null; cancel no; }", "inject 0 65, life 0 0, inject 0 64, inject 0 -1",
			api.Final{
				Objects: []string{"c0.0#0=f0", "e0.1#0=" + zeros(64), "m#0=f4", "m#1=f4", "m#10=f4", "m#2=f4", "m#3=f4", "m#4=f4", "m#5=f4", "m#6=f4", "m#7=f4", "m#8=f4", "m#9=f4"},
				Log:     []string{"64"},
				Traps:   []string{"c0.0:1", "e0.0:3", "e0.2:3", "m:1", "m/0:1", "m/1:1", "m/10:1", "m/2:1", "m/3:1", "m/4:1", "m/5:1", "m/6:1", "m/7:1", "m/8:1", "m/9:1"},
			},
		}, {
			"a token of a task that was cancelled, a handle of one that has a fault", "looper ui; var k tok; var h hand; main { post ui fn { } to k; cancel k; spawn fn { var no hand = null; join no; } to h; }", "",
			api.Final{Globals: []string{"m/0", "m/1"}, Objects: []string{"m#0=f1", "m#1=f2"}, Traps: []string{"m/1:1"}},
		},
	} {
		p := parsed(t, c.text)
		wantFinal(t, c.what, p, ended(t, p, c.outer), c.want)
	}
	// What goes too deep makes many closures.
	p := parsed(t, "looper ui; fn deep { call deep; } main { call deep; }")
	f := trace.Final(p, ended(t, p, ""))
	if len(f.Objects) != api.MaxFrames || f.Objects[0] != "m#0=f0" || !slices.Equal(f.Traps, []string{"m:4"}) {
		t.Errorf("deep: %q", f)
	}
}

// zeros are the words of so many zeros.
func zeros(n int) string {
	s := ""
	for range n {
		s += " 0"
	}
	return s
}

// P13.4: of a closure's line the cells' words alone have a blank ahead of each: 'f' and the function stand right behind the '=', with cells and without.
func TestFinalClosures(t *testing.T) {
	for _, c := range []struct{ what, text, want string }{
		{"no cells", "looper ui; var f fn; main { f = fn { }; }", "m#0=f1"},
		{"a named function", "looper ui; var f fn; fn named { } main { f = named; }", "m#0=f0"},
		{"one cell", "looper ui; var f fn; main { var n int = 0 - 7; f = fn { log n; }; }", "m#0= -7, m#1=f1 m#0"},
		{"two cells, one of them its own", "looper ui; main { var n int = 7; var f fn = null; f = fn { log n; call f; }; }", "m#0= 7, m#1= m#2, m#2=f1 m#0 m#1"},
		{"a closure in another one's cell", "looper ui; main { var f fn = fn { }; var g fn = fn { call f; }; }", "m#0=f1, m#1= m#0, m#2=f2 m#1"},
	} {
		p := parsed(t, c.text)
		got := trace.Final(p, ended(t, p, ""))
		if !slices.Equal(got.Objects, strings.Split(c.want, ", ")) {
			t.Errorf("%s: %q, not %q", c.what, got.Objects, c.want)
		}
	}
}

// P13.4: under way: what a machine is like is told as it is then.
func TestFinalUnderWay(t *testing.T) {
	p := parsed(t, "looper ui; var g int; var k tok; main { g = 1; post ui fn { log g; g = 2; } to k; log 7; }")
	m := made(t, p)
	wantFinal(t, "a new one", p, m, api.Final{Globals: []string{"0", "-"}})
	m = behind(t, p, "run 0 * 5")
	wantFinal(t, "behind the post", p, m, api.Final{Globals: []string{"1", "-"}, Objects: []string{"m#0=f1"}})
	m = behind(t, p, "run 0 * 9")
	wantFinal(t, "behind main", p, m, api.Final{Globals: []string{"1", "m/0"}, Objects: []string{"m#0=f1"}, Log: []string{"7"}})
	m = ended(t, p, "")
	wantFinal(t, "behind all", p, m, api.Final{Globals: []string{"2", "m/0"}, Objects: []string{"m#0=f1"}, Log: []string{"7", "1"}})
}

// P13.4: of no machine nothing.
func TestFinalOfNone(t *testing.T) {
	p := parsed(t, whole)
	for what, m := range map[string]*machine.Machine{"nil": nil, "a zero one": {}} {
		if got := trace.Final(p, m); !reflect.DeepEqual(got, api.Final{}) {
			t.Errorf("%s: %+v", what, got)
		}
		trace.Final(api.Prog{}, m)
	}
}

// types are all types, with a class of the first, and of the second kind.
var types = []api.Type{api.TypeInt, api.TypeFn, api.TypeToken, api.TypeHand, api.TypeArray, -1, -2}

// holder is a program of a global, a field and a cell of each type, all of which its main function sets to a number; ahead of that it makes an array, a closure, a post that waits, and a worker.
func holder(n int64) api.Prog {
	code := []api.Instr{
		{Op: api.OpConst, A: 0, N: 2}, {Op: api.OpArray, A: 1, B: 0}, {Op: api.OpClosure, A: 2, N: 1}, {Op: api.OpPost, A: 3, B: 2}, {Op: api.OpSpawn, A: 4, B: 2},
		{Op: api.OpConst, A: 0, N: n}, {Op: api.OpNew, A: 1},
	}
	p := api.Prog{Loopers: []string{"ui"}, Classes: []api.Class{{Names: make([]string, len(types)), Fields: types}, {Name: "D"}}}
	for i, x := range types {
		p.Globals = append(p.Globals, api.Global{Type: x})
		code = append(code, api.Instr{Op: api.OpStore, N: int64(i)}, api.Instr{Op: api.OpSetField, A: 1, N: int64(i)},
			api.Instr{Op: api.OpCell, A: 5, N: int64(x)}, api.Instr{Op: api.OpPut, A: 5})
	}
	code = append(code, api.Instr{Op: api.OpClosure, A: 5, N: 2, L: []int{0, 5}}, api.Instr{Op: api.OpRet})
	p.Funcs = []api.Func{{Regs: 6, Code: code}, {Code: []api.Instr{{Op: api.OpRet}}}, {Captures: 2, Regs: 2, Code: []api.Instr{{Op: api.OpRet}}}}
	return numbered(p)
}

// P13.4: numbers that name something, and that name nothing, as globals, fields, cells of each type, and as a closure's cells.
func TestFinalOfNumbers(t *testing.T) {
	for _, c := range []struct {
		n            int64
		object, task string
	}{
		{0, "-", "-"}, {-1, "-", "-"}, {-3, "-", "-"}, {math.MinInt64, "-", "-"}, {math.MaxInt64, "-", "-"}, {1 << 32, "-", "-"}, {1<<32 + 1, "-", "-"}, {-1 << 32, "-", "-"},
		// The tasks are main, the post, the worker; the last ones of the objects are the last cell and the last closure.
		{1, "m#0", "m"}, {2, "m#1", "m/0"}, {3, "m#2", "m/1"}, {4, "m#3", "-"}, {10, "m#9", "-"}, {11, "m#10", "-"}, {12, "-", "-"},
	} {
		p := holder(c.n)
		m := behind(t, p, fmt.Sprintf("run 0 * %d", len(p.Funcs[0].Code)+1))
		word := fmt.Sprint(c.n)
		words := []string{word, c.object, c.task, c.task, c.object, c.object, c.object}
		want := api.Final{Globals: words, Objects: []string{"m#0= 0 0", "m#1=f1", "m#10=f2 " + c.object + " m#9", "m#2="}}
		for i, word := range words {
			want.Objects[3] += " " + word
			want.Objects = append(want.Objects, fmt.Sprintf("m#%d= %s", i+3, word))
		}
		wantFinal(t, word, p, m, want)
	}
}

// P13.4: types of nothing, and such as there are not, are of values that name nothing; a program that is another one's tells no more than it has.
func TestFinalOfOddTypes(t *testing.T) {
	p := parsed(t, "looper ui; class C { i int; j int; } var g int; var h int; main { g = 1; h = 2; var c C = new C; c.i = 1; var n int = 1; log n; spawn fn { n = n; }; }")
	m := ended(t, p, "")
	want := api.Final{Globals: []string{"1", "2"}, Objects: []string{"m#0= 1 0", "m#1= 1", "m#2=f1 m#1"}, Log: []string{"1"}}
	wantFinal(t, "its own program", p, m, want)
	q := api.Prog{}
	want.Globals, want.Objects[0] = []string{"-", "-"}, "m#0= - -"
	wantFinal(t, "no program", q, m, want)
	q.Globals = []api.Global{{Type: api.TypeNull}, {Type: api.TypeArray + 1}, {Type: api.TypeInt}}
	q.Classes = []api.Class{{Fields: []api.Type{api.TypeHand}}}
	want.Globals, want.Objects[0] = []string{"-", "-"}, "m#0= m -"
	wantFinal(t, "another program", q, m, want)
}

// P13.4, P13.5: how a run ended is told by names: it is no matter in which order things were made.
func TestFinalByNames(t *testing.T) {
	p := parsed(t, `looper ui; looper bg; class C { n int; next C; f fn; k tok; } var a C; var b C; var no tok;
event e on ui on { a = new C; a.n = it; post ui fn { cancel no; } to a.k; }
event f on bg on { b = new C; b.next = b; b.f = fn { b.n = it; }; call b.f; cancel no; }
main { }`)
	var all []api.Final
	for _, words := range []string{"inject 0 5, inject 1 6", "inject 1 6, inject 0 5", "inject 1 6, run 1 * 6, inject 0 5", "run 0 * 2, inject 0 5, run 0 * 4, inject 1 6, run 1 * 5"} {
		m := ended(t, p, words)
		all = append(all, trace.Final(p, m))
		if want := (api.Final{
			Globals: []string{"e0.0#0", "e1.0#0", "-"},
			Objects: []string{"e0.0#0= 5 - - e0.0/0", "e0.0#1=f1", "e1.0#0= 6 e1.0#0 e1.0#1 -", "e1.0#1=f3"},
			Traps:   []string{"e0.0/0:1", "e1.0:1"},
		}); !trace.SameFinal(all[0], all[len(all)-1]) || !trace.SameFinal(all[0], want) {
			t.Errorf("%s: %+v, want %+v", words, all[len(all)-1], want)
		}
	}
}

// P13.4: ends that differ in one thing alone.
func TestSameFinal(t *testing.T) {
	make4 := func() api.Final {
		return api.Final{Globals: []string{"1", "2"}, Objects: []string{"m#0= 1", "m#1="}, Log: []string{"1", "2"}, Traps: []string{"m:1", "m/0:2"}}
	}
	a := make4()
	if !trace.SameFinal(a, make4()) || !trace.SameFinal(a, a) {
		t.Error("it is not the same as itself")
	}
	empty := api.Final{Globals: []string{}, Objects: []string{}, Log: []string{}, Traps: []string{}}
	if !trace.SameFinal(api.Final{}, api.Final{}) || !trace.SameFinal(api.Final{}, empty) || !trace.SameFinal(empty, api.Final{}) {
		t.Error("nothing is not the same as nothing")
	}
	parts := func(f *api.Final) []*[]string { return []*[]string{&f.Globals, &f.Objects, &f.Log, &f.Traps} }
	for part := range 4 {
		for what, change := range map[string]func(l *[]string){
			"another one":   func(l *[]string) { (*l)[1] += "1" },
			"the first one": func(l *[]string) { (*l)[0] = "-" },
			"one less":      func(l *[]string) { *l = (*l)[:1] },
			"one more":      func(l *[]string) { *l = append(*l, "") },
			"none":          func(l *[]string) { *l = nil },
			"the order":     func(l *[]string) { slices.Reverse(*l) },
		} {
			b := make4()
			change(parts(&b)[part])
			if trace.SameFinal(a, b) || trace.SameFinal(b, a) {
				t.Errorf("part %d: %s", part, what)
			}
		}
	}
	b := make4()
	b.Globals, b.Log = b.Objects, b.Globals
	if trace.SameFinal(a, b) || !reflect.DeepEqual(a, make4()) {
		t.Error("parts are told apart no more")
	}
}

// P13.4: nothing of an end is another end's own.
func TestFinalIsNew(t *testing.T) {
	p := parsed(t, whole)
	m := ended(t, p, texts[0].outer)
	f := trace.Final(p, m)
	if len(f.Globals) == 0 || len(f.Objects) == 0 || len(f.Log) == 0 || len(f.Traps) == 0 {
		t.Fatalf("%+v", f)
	}
	f.Globals[0], f.Objects[0], f.Log[0], f.Traps[0] = "?", "?", "?", "?"
	f.Globals = append(f.Globals[:0], f.Objects...)
	if again := trace.Final(p, m); trace.SameFinal(f, again) || !trace.SameFinal(again, final(p, m)) {
		t.Errorf("%+v", again)
	}
}

// P13.4: numbers of all kinds at random, by the chapter's words.
func TestFinalOfRandomNumbers(t *testing.T) {
	r := rand.New(rand.NewSource(134))
	for range 100 {
		p := holder(int64(r.Intn(16) - 2))
		m := made(t, p)
		for range r.Intn(60) {
			script.Do(m, api.Entry{Kind: api.EntryRun})
		}
		wantFinal(t, "random numbers", p, m, final(p, m))
	}
}
