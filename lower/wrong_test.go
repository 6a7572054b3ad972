package lower

import (
	"math"
	"math/rand"
	"reflect"
	"slices"
	"strings"
	"testing"

	"detent/api"
)

// P6.2: what is wrong is that of the first of words, grammar, names, types that finds something, all of it, and nothing else is answered.
func TestWrongTexts(t *testing.T) {
	for _, c := range []struct {
		text string
		want []api.Diag
	}{
		// Of words, whatever else there is.
		{"looper a; main { log 1 ! ; }", []api.Diag{{Line: 1, Col: 24, Err: api.ErrChar}}},
		{"! main { x = 1 }\n?", []api.Diag{{Line: 1, Col: 1, Err: api.ErrChar}, {Line: 2, Col: 1, Err: api.ErrChar}}},
		{"main { log 2147483648; log x; log null; }", []api.Diag{{Line: 1, Col: 12, Err: api.ErrLimit}}},
		{"looper a; main { var " + strings.Repeat("x", 33) + " int = null; }", []api.Diag{{Line: 1, Col: 22, Err: api.ErrLimit}}},
		// Of the grammar: one.
		{"", []api.Diag{{Line: 1, Col: 1, Err: api.ErrNone}, {Line: 1, Col: 1, Err: api.ErrNone}}},
		{"main { x = 1 }", []api.Diag{{Line: 1, Col: 14, Err: api.ErrSyntax}}},
		{"main { log x; log null;", []api.Diag{{Err: api.ErrSyntax}}},
		{"looper a; main { log " + strings.Repeat("(", 64) + "1", []api.Diag{{Line: 1, Col: 85, Err: api.ErrDepth}}},
		// Of names: all of them, and of types nothing.
		{"main { }", []api.Diag{{Line: 1, Col: 1, Err: api.ErrNone}}},
		{"looper a; looper a; main { log x; log null; }", []api.Diag{{Line: 1, Col: 11, Err: api.ErrTwice}, {Line: 1, Col: 32, Err: api.ErrName}}},
		{"looper a; main { log null;\nlog x; }", []api.Diag{{Line: 2, Col: 5, Err: api.ErrName}}},
		// Of types.
		{"looper a; main { log null;\nlog fn { }; var x int = null; }", []api.Diag{{Line: 1, Col: 18, Err: api.ErrType}, {Line: 2, Col: 1, Err: api.ErrType}, {Line: 2, Col: 13, Err: api.ErrType}}},
		// Ahead of any limit but a text's.
		{numbered("looper l@; ", 9) + "main { log x; }", []api.Diag{{Line: 1, Col: 111, Err: api.ErrName}}},
		{"looper a; fn p { } main { post a p after 1000001; log null; }", []api.Diag{{Line: 1, Col: 51, Err: api.ErrType}}},
		{"looper a; main {\n" + strings.Repeat("return; ", 600) + "\nreturn }", []api.Diag{{Line: 3, Col: 8, Err: api.ErrSyntax}}},
	} {
		p, wrong, err := Text([]byte(c.text))
		if !slices.Equal(wrong, c.want) || err != api.OK || !reflect.DeepEqual(p, api.Prog{}) {
			t.Errorf("%q: %v, %v, %d functions, want %v", c.text, wrong, err, len(p.Funcs), c.want)
		}
	}
	if p, wrong, err := Text(nil); len(wrong) != 2 || err != api.OK || !reflect.DeepEqual(p, api.Prog{}) {
		t.Errorf("no text: %v, %v, %v", p, wrong, err)
	}
}

// sample has all kinds of twigs.
const sample = "looper a; looper b; class C { i int; c C; } var g C; var r arr; var t tok; var h hand; comp m on b { create { log 1; } stop { } } event e on a off { call p; }\n" +
	"fn p { var x int = 1; var y int = x; call fn { y = it + x; call fn { log y; g.c.i = y; }; }; }\n" +
	"main { var f fn = p; while 1 < 2 { g = new C; r = arr 3; r[0] = len r; } if g == null { post a f after 3 to t; cancel t; } else { post b fn { } front; spawn f to h; join h; } enable e; disable e; log g.i * r[1] - 2; return; }"

// Rule 7 of the language: what is handed in is not changed, and what is answered shares nothing with it, nor with another answer, nor in itself.
func TestNothingIsShared(t *testing.T) {
	x, n, l := resolved(t, sample)
	y, m, k := resolved(t, sample)
	p, err := Lower(x, n, l)
	if err != api.OK || !reflect.DeepEqual(x, y) || !reflect.DeepEqual(n, m) || !slices.Equal(l, k) {
		t.Fatalf("%v, or changed", err)
	}
	q, _ := Lower(x, n, l)
	// Whatever is done to one answer, longer lists too, the other one is as it was.
	want, _ := Lower(y, m, k)
	p.Loopers = append(p.Loopers[:1], "z")
	p.Classes[0].Names[0], p.Classes[0].Fields[0] = "z", 7
	p.Globals[0], p.Comps[0], p.Events[0], p.Sites[0] = api.Global{}, api.Comp{}, api.Event{}, api.Site{}
	for i := range p.Funcs {
		f := &p.Funcs[i]
		f.Code = append(f.Code[:1], api.Instr{}, api.Instr{})
		for j := range f.Code {
			for nth := range f.Code[j].L {
				f.Code[j].L[nth] = 99
			}
			f.Code[j] = api.Instr{}
		}
	}
	if !reflect.DeepEqual(q, want) || !reflect.DeepEqual(x, y) || !reflect.DeepEqual(n, m) || !slices.Equal(l, k) {
		t.Error("what was done to an answer changed something else")
	}
	text := []byte(sample)
	p, _, _ = Text(text)
	if string(text) != sample || !reflect.DeepEqual(p, want) {
		t.Error("Text changed its text, or is not as Lower")
	}
	clear(text)
	if !reflect.DeepEqual(p, want) {
		t.Error("what Text answered is its text")
	}
}

// Rule 4 of the language: Lower ends, without a panic, whatever it is given.
func TestNothingThatBelongsTogether(t *testing.T) {
	x, n, l := resolved(t, sample)
	none := func(what string, t2 api.Tree, n2 api.Names, l2 []api.Type) {
		t.Helper()
		if p, err := Lower(t2, n2, l2); err != api.ErrArg || !reflect.DeepEqual(p, api.Prog{}) {
			t.Errorf("%s: %v, %v", what, p, err)
		}
	}
	none("nothing", api.Tree{}, api.Names{}, nil)
	none("no tree", api.Tree{}, n, l)
	none("no names", x, api.Names{}, l)
	none("no types", x, n, nil)
	other, m, k := resolved(t, "looper a; main { }")
	none("another tree", other, n, l)
	none("other names", x, m, l)
	none("other types", x, n, k)
	// Twigs whose kids they are themselves, or are twice.
	for kind := api.TwigProg; kind <= api.TwigFn+1; kind++ {
		for _, kids := range [][]int{{1}, {1, 1}, {1, 1, 1}, {0}, {0, 0, 0}, {2, 1}, {1, 2, 2}} {
			y := api.Tree{Twigs: []api.Twig{{Kind: kind, Kids: kids}, {Kind: kind, Kids: kids}, {Kind: api.TwigNumber}}}
			for i := range y.Twigs {
				Lower(y, mainAt(i, 3), make([]api.Type, 3))
			}
		}
	}
	// Twigs whose kids are one twig twice, which has one twice, and so on: of terms of each kind, and of statements of such terms.
	for kind := api.TwigProg; kind <= api.TwigFn; kind++ {
		terms := api.Tree{Twigs: []api.Twig{{Kind: api.TwigMain, Kids: []int{1}}, {Kind: api.TwigBlock, Kids: []int{2}}, {Kind: api.TwigLog, Kids: []int{3}}}}
		statements := api.Tree{Twigs: []api.Twig{{Kind: api.TwigMain, Kids: []int{2}}, {Kind: kind, Kids: []int{3, 3, 3}}}}
		for i := 3; i < 203; i += 2 {
			terms.Twigs = append(terms.Twigs, api.Twig{Kind: kind, Kids: []int{i + 1, i + 1}}, api.Twig{Kind: kind, Kids: []int{i + 2, i + 2}})
			statements.Twigs = append(statements.Twigs, api.Twig{Kind: api.TwigBlock, Kids: []int{i}}, api.Twig{Kind: api.TwigIf, Kids: []int{1, i + 1, i + 1}})
		}
		terms.Twigs = append(terms.Twigs, api.Twig{Kind: api.TwigNumber})
		statements.Twigs = append(statements.Twigs, api.Twig{Kind: api.TwigBlock})
		for _, y := range []api.Tree{terms, statements} {
			Lower(y, mainAt(0, len(y.Twigs)), make([]api.Type, len(y.Twigs)))
		}
	}
}

// mainAt tells names of so many twigs of which none means anything, and of one main function, whose block is the last kid of a twig.
func mainAt(i, twigs int) api.Names {
	return api.Names{Means: make([]api.Mean, twigs), Owners: make([]int, twigs), Funcs: []api.NamedFunc{{Twig: i}}}
}

// Rule 4 of the language, of trees, names and types in which some numbers are any.
func TestSpoilt(t *testing.T) {
	t.Parallel()
	r := rand.New(rand.NewSource(3))
	number := func(size int) int {
		return [...]int{-1, 0, 1, size, size + 1, math.MinInt, math.MaxInt, r.Intn(size), r.Intn(size), r.Intn(size), r.Intn(size)}[r.Intn(11)]
	}
	for range 4000 {
		x, n, l := resolved(t, sample)
		size := len(x.Twigs)
		for range 1 + r.Intn(4) {
			i, f := r.Intn(size), r.Intn(len(n.Funcs))
			w := &x.Twigs[i]
			switch r.Intn(14) {
			case 0, 1, 2:
				w.Kind = api.TwigKind(r.Intn(int(api.TwigFn) + 3))
			case 3, 4:
				if len(w.Kids) > 0 {
					w.Kids[r.Intn(len(w.Kids))] = number(size)
				}
			case 5:
				w.Kids = append(w.Kids, number(size))
			case 6:
				w.Kids = w.Kids[:r.Intn(len(w.Kids)+1)]
			case 7:
				w.N, w.Text = int64(number(size)), []string{"", "i", "c", "+", "=="}[r.Intn(5)]
			case 8, 9:
				n.Means[i] = api.Mean{Kind: api.MeanKind(r.Intn(8)), N: number(size)}
			case 10:
				l[i] = api.Type(number(8))
			case 11:
				n.Funcs[f].Twig = number(size)
			case 12:
				n.Funcs[f].Captures = append(n.Funcs[f].Captures, number(size))
			case 13:
				for _, list := range [][]int{n.Loopers, n.Classes, n.Globals, n.Comps, n.Events} {
					list[r.Intn(len(list))] = number(size)
				}
			}
		}
		if p, err := Lower(x, n, l); err != api.OK && !reflect.DeepEqual(p, api.Prog{}) {
			t.Fatalf("%v, and a program", err)
		}
	}
}
