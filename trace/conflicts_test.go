package trace_test

import (
	"math/rand"
	"slices"
	"testing"

	"detent/api"
	"detent/trace"
)

// wantPairs holds a run's conflicts against what they must be.
func wantPairs(t *testing.T, what string, r api.Run, want ...api.Pair) {
	t.Helper()
	was := apart(r)
	if got := trace.Conflicts(r); !slices.Equal(got, want) {
		t.Errorf("%s: %v, want %v", what, got, want)
	}
	if !sameRun(r, was) {
		t.Errorf("%s: it changes what is handed in", what)
	}
}

// P13.3: accesses that conflict, and that do not.
func TestConflicts(t *testing.T) {
	for marks, want := range map[string][]api.Pair{
		"":                               nil,
		"1 writes 0":                     nil,
		"1 writes 0, 2 writes 0":         {{A: 0, B: 1}},
		"2 writes 0, 1 writes 0":         {{A: 0, B: 1}},
		"1 writes 0, 2 reads 0":          {{A: 0, B: 1}},
		"1 reads 0, 2 writes 0":          {{A: 0, B: 1}},
		"1 reads 0, 2 reads 0":           nil,
		"1 writes 0, 1 writes 0":         nil,
		"1 writes 0, 1 reads 0":          nil,
		"1 reads 0, 1 writes 0":          nil,
		"1 writes 0, 2 writes 1":         nil,
		"1 begins, 2 begins":             nil,
		"1 begins, 1 posts 2, 1 enables": nil,
		// By the second one, then the first one.
		"1 writes 0, 2 writes 0, 3 writes 0":                                  {{A: 0, B: 1}, {A: 0, B: 2}, {A: 1, B: 2}},
		"1 writes 0, 1 writes 0, 2 reads 0, 2 writes 0":                       {{A: 0, B: 2}, {A: 1, B: 2}, {A: 0, B: 3}, {A: 1, B: 3}},
		"1 writes 0, 1 reads 0, 2 reads 0, 2 writes 0":                        {{A: 0, B: 2}, {A: 0, B: 3}, {A: 1, B: 3}},
		"1 reads 0, 2 reads 0, 3 writes 0, 1 reads 0":                         {{A: 0, B: 2}, {A: 1, B: 2}, {A: 2, B: 3}},
		"1 writes 0, 2 writes 0, 1 writes 0, 2 writes 0":                      {{A: 0, B: 1}, {A: 1, B: 2}, {A: 0, B: 3}, {A: 2, B: 3}},
		"1 writes 0, 2 writes 1, 2 writes 0, 1 reads 1":                       {{A: 0, B: 2}, {A: 1, B: 3}},
		"1 writes 1, 2 writes 0, 3 reads 0, 3 reads 1, 4 writes 0":            {{A: 1, B: 2}, {A: 0, B: 3}, {A: 1, B: 4}, {A: 2, B: 4}},
		"1 begins, 1 writes 0, 1 posts 2, 1 ends, 2 begins, 2 reads 0":        {{A: 1, B: 5}},
		"2 reads 0, 1 reads 0, 2 reads 0, 2 writes 0, 1 reads 0, 3 reads 0":   {{A: 1, B: 3}, {A: 3, B: 4}, {A: 3, B: 5}},
		"3 writes 0, 3 writes 0, 1 reads 0, 3 writes 0, 2 reads 0, 1 reads 0": {{A: 0, B: 2}, {A: 1, B: 2}, {A: 2, B: 3}, {A: 0, B: 4}, {A: 1, B: 4}, {A: 3, B: 4}, {A: 0, B: 5}, {A: 1, B: 5}, {A: 3, B: 5}},
	} {
		r := api.Run{Marks: marked(t, marks)}
		wantPairs(t, marks, r, want...)
		if got := pairs(r); !slices.Equal(got, want) {
			t.Errorf("%s: by the chapter's words %v", marks, got)
		}
	}
}

// places are locations, all unlike, of each kind: of unlike kinds, of unlike numbers.
func places() []api.Loc {
	var l []api.Loc
	for kind := api.LocGlobal; kind <= api.LocLog; kind++ {
		l = append(l, api.Loc{Kind: kind}, api.Loc{Kind: kind, A: 1}, api.Loc{Kind: kind, A: 2}, api.Loc{Kind: kind, B: 1}, api.Loc{Kind: kind, B: 2}, api.Loc{Kind: kind, A: 1, B: 1}, api.Loc{Kind: kind, A: 2, B: 1})
	}
	return l
}

// P13.3: one location is of one kind, and of the same numbers.
func TestConflictsOfEachLocation(t *testing.T) {
	for i, a := range places() {
		for k, b := range places() {
			r := api.Run{Marks: []api.Mark{
				{Kind: api.MarkAccess, Task: 1, Access: api.Access{Site: i, Loc: a, Write: true}},
				{Kind: api.MarkAccess, Task: 2, Access: api.Access{Site: k, Loc: b}},
			}}
			if got := trace.Conflicts(r); len(got) > 0 != (i == k) {
				t.Errorf("%+v, %+v: %v", a, b, got)
			}
		}
	}
}

// P13.3: of any run: what is no access has no part in it, whatever it has; tasks need not be there.
func TestConflictsOfAnyRun(t *testing.T) {
	access := api.Access{Loc: api.Loc{Kind: api.LocGlobal}, Write: true}
	var r api.Run
	for kind := api.MarkKind(-1); kind <= api.MarkEnable+1; kind++ {
		for task := -1; task < 2; task++ {
			r.Marks = append(r.Marks, api.Mark{Kind: kind, Task: task, Access: access})
		}
	}
	at := slices.IndexFunc(r.Marks, func(x api.Mark) bool { return x.Kind == api.MarkAccess })
	if trace.May(r) {
		t.Error("it may be")
	}
	wantPairs(t, "marks of each kind", r, api.Pair{A: at, B: at + 1}, api.Pair{A: at, B: at + 2}, api.Pair{A: at + 1, B: at + 2})
	wantPairs(t, "nothing", api.Run{})
	wantPairs(t, "tasks alone", api.Run{Tasks: rich(t).Tasks})
	wantPairs(t, "a run by hand", rich(t), api.Pair{A: 3, B: 18}, api.Pair{A: 7, B: 23})
	// Marks beyond the limit are gone over, too.
	l := manyMarks(t, 3*api.MaxSteps+9)
	l.Marks = append(l.Marks, marked(t, "2 reads 0")...)
	got := trace.Conflicts(l)
	if len(got) != 3*api.MaxSteps+8 || got[0] != (api.Pair{A: 1, B: 3*api.MaxSteps + 9}) {
		t.Errorf("%d pairs of many", len(got))
	}
}

// P13.3: many accesses of one location, by some tasks, in each order of writes and reads.
func TestConflictsOfMany(t *testing.T) {
	r := rand.New(rand.NewSource(133))
	for range 300 {
		tasks, locs, n := 1+r.Intn(4), 1+r.Intn(3), r.Intn(120)
		often := r.Intn(4)
		var x api.Run
		for range n {
			mark := api.Mark{Kind: api.MarkAccess, Task: 1 + r.Intn(tasks), Access: api.Access{Site: r.Intn(5), Loc: places()[r.Intn(locs)], Write: r.Intn(4) < often}}
			if r.Intn(9) == 0 {
				mark.Kind = api.MarkKind(r.Intn(10))
			}
			x.Marks = append(x.Marks, slices.Repeat([]api.Mark{mark}, 1+r.Intn(3))...)
		}
		wantPairs(t, "random marks", x, pairs(x)...)
		if t.Failed() {
			t.Fatalf("%+v", x)
		}
	}
	// All pairs of many.
	var x api.Run
	for i := range 1500 {
		x.Marks = append(x.Marks, api.Mark{Kind: api.MarkAccess, Task: i, Access: api.Access{Write: true}})
	}
	wantPairs(t, "all of many", x, pairs(x)...)
	// None of very many: of one task, of reads alone.
	for i := range x.Marks {
		x.Marks[i].Task = 1
	}
	x.Marks = slices.Repeat(x.Marks, 40)
	wantPairs(t, "one task's", x)
	for i := range x.Marks {
		x.Marks[i].Task, x.Marks[i].Access.Write = i, false
	}
	wantPairs(t, "reads", x)
}

// P13.3: whole programs: accesses of each kind of location that conflict.
func TestConflictsOfPrograms(t *testing.T) {
	for _, c := range []struct {
		what, text string
		want       map[api.Loc]int
	}{
		{"a global", "looper ui; var g int; main { post ui fn { log 1 + g; g = 2; }; g = 1; }", map[api.Loc]int{{Kind: api.LocGlobal}: 2}},
		{"a global that both read", "looper ui; var g int; main { var n int = g; post ui fn { var n int = g; }; n = g; }", nil},
		{"a field, not another one, not another object's", "looper ui; class C { i int; j int; } main { var c C = new C; var d C = new C; post ui fn { c.i = 1; d.j = 2; }; post ui fn { var n int = c.i; n = c.j; n = d.i; }; }", map[api.Loc]int{{Kind: api.LocField, A: 1}: 1, {Kind: api.LocCell, A: 2}: 3, {Kind: api.LocCell, A: 4}: 2}},
		{"an element, not another one", "looper ui; var a arr; main { a = arr 3; post ui fn { a[1] = 1; a[2] = 2; }; post ui fn { var n int = a[1]; n = a[0]; n = a[0]; }; }", map[api.Loc]int{{Kind: api.LocGlobal}: 5, {Kind: api.LocElem, A: 1, B: 1}: 1}},
		{"a cell", "looper ui; main { var n int = 1; spawn fn { n = 2; }; }", map[api.Loc]int{{Kind: api.LocCell, A: 1}: 1}},
		{"a token that is cancelled behind its beginning, and one that is ahead", "looper ui; looper bg; main { var k tok = null; post ui fn { } to k; cancel k; post bg fn { } to k; post ui fn { cancel k; } after 5; }", map[api.Loc]int{{Kind: api.LocToken, A: 3}: 1, {Kind: api.LocCell, A: 1}: 3}},
		{"a flag", "looper ui; event e on ui on { } main { enable e; post ui fn { disable e; }; }", map[api.Loc]int{{Kind: api.LocFlag}: 1}},
		{"the log", "looper ui; main { log 1; post ui fn { log 2; log 3; }; log 4; }", map[api.Loc]int{{Kind: api.LocLog}: 4}},
	} {
		m := ended(t, parsed(t, c.text), "")
		r := trace.Take(m)
		got := map[api.Loc]int{}
		for _, x := range trace.Conflicts(r) {
			a, b := r.Marks[x.A].Access, r.Marks[x.B].Access
			if a.Loc != b.Loc || x.A >= x.B {
				t.Errorf("%s: %+v", c.what, x)
			}
			got[a.Loc]++
		}
		if len(got) != len(c.want) {
			t.Errorf("%s: %v, want %v", c.what, got, c.want)
		}
		for loc, n := range c.want {
			if got[loc] != n {
				t.Errorf("%s: %v, want %v", c.what, got, c.want)
			}
		}
		wantPairs(t, c.what, r, pairs(r)...)
	}
}
