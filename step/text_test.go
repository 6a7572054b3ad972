package step_test

import (
	"fmt"
	"slices"
	"strings"
	"testing"

	"detent/api"
	"detent/heap"
	"detent/lower"
	"detent/step"
)

// runner is so much of a machine as whole programs need: it runs tasks one by one, each to its end, in the order in which they were made.
type runner struct {
	t       *testing.T
	c       *step.Code
	h       *heap.Heap
	globals []int64
	tasks   []*step.Thread
	log     []int64
	asked   []string
	touched map[api.LocKind]int
}

// ran runs the program of a text; 'it' is 5.
func ran(t *testing.T, text string) *runner {
	t.Helper()
	p, wrong, err := lower.Text([]byte(text))
	if err != api.OK || len(wrong) > 0 {
		t.Fatalf("%q: %v, %v", text, wrong, err)
	}
	r := &runner{t: t, c: coded(t, p), h: heap.New(), globals: make([]int64, len(p.Globals)), touched: map[api.LocKind]int{}}
	r.tasks = append(r.tasks, begun(t, r.c, p.Main))
	for i := 0; i < len(r.tasks); i++ {
		for !r.tasks[i].Over() {
			r.step(i)
		}
	}
	return r
}

func (r *runner) step(task int) {
	r.t.Helper()
	x := r.tasks[task]
	ask, err := x.Step(r.h, task+1, 5)
	if err != api.OK {
		r.t.Fatalf("Step: %v", err)
	}
	for _, a := range ask.Accesses {
		r.touched[a.Loc.Kind]++
	}
	if ask.Op == 0 {
		return
	}
	var n int64
	switch ask.Op {
	case api.OpLoad:
		n = r.globals[ask.N]
	case api.OpStore:
		r.globals[ask.N] = ask.V
	case api.OpLog:
		r.log = append(r.log, ask.V)
	case api.OpPost, api.OpFront, api.OpSpawn:
		o, err := r.h.Object(ask.V)
		if err != api.OK {
			r.t.Fatalf("no closure: %+v", ask)
		}
		r.tasks = append(r.tasks, begun(r.t, r.c, o.Of, o.Vals...))
		n = int64(len(r.tasks))
		r.asked = append(r.asked, fmt.Sprint(ask.Op, " of looper ", ask.Looper, ", ", ask.N, " later"))
	default:
		r.asked = append(r.asked, fmt.Sprint(ask.Op, " of ", ask.V, ", ", ask.N))
	}
	if err := x.Done(n); err != api.OK {
		r.t.Fatalf("Done of %+v: %v", ask, err)
	}
}

// P10.1, P10.3: whole programs of texts: what they log, and their tasks' faults.
func TestTexts(t *testing.T) {
	for _, c := range []struct {
		what, text string
		log        []int64
		traps      []api.Trap
	}{
		{"sums and loops", "main { var i int = 0; var s int = 0; while i < 10 { i = i + 1; if i == 7 { s = s - 100; } else { s = s + i * i; } } log s; log i - 20; log it; }", []int64{236, -10, 5}, nil},
		{"return", "main { var i int = 0; while 1 { i = i + 1; if 3 < i { log i; return; } } log 9; }", []int64{4}, nil},
		{"arrays", "main { var a arr = arr 8; var i int = 0; while i < len a { a[i] = i * i; i = i + 1; } var b arr = a; log b[7] + b[3]; b[0] = 5; log a[0]; log len arr 64; log a == b; log a == arr 8; }", []int64{58, 5, 64, 1, 0}, nil},
		{"cells that closures capture", "main { var n int = 1; var twice fn = fn { n = n * 2; call fn { n = n + it; }; }; call twice; call twice; log n; var m int = n; call fn { m = 0; }; log n; log m; }", []int64{19, 19, 0}, nil},
		{"each call makes its own cells", "var f fn; var g fn; fn make { var n int = 0; f = fn { n = n + 1; log n; }; } main { call make; g = f; call make; call g; call g; call f; call g; }", []int64{1, 2, 1, 3}, nil},
		{"objects", "class C { i int; next C; } var head C; main { var i int = 0; while i < 4 { var c C = new C; c.i = i * 10; c.next = head; head = c; i = i + 1; } var c C = head; while (c == null) == 0 { log c.i; c = c.next; } }", []int64{30, 20, 10, 0}, nil},
		{"a function that calls itself", "var n int; var p int; fn f { if n { p = p * n; n = n - 1; call f; } } main { n = 10; p = 1; call f; log p; }", []int64{3628800}, nil},
		{"as many calls as may be", "var n int; fn f { n = n + 1; if n < 31 { call f; } } main { call f; log n; }", []int64{31}, nil},
		{"a call too many", "var n int; fn f { n = n + 1; if n < 32 { call f; } log n; } main { call f; log n; }", nil, []api.Trap{api.TrapDepth}},
		{"a field of nothing", "class C { i int; } var c C; main { log 1; log c.i; log 2; }", []int64{1}, []api.Trap{api.TrapNull}},
		{"a field of nothing is set", "class C { i int; } var c C; main { c.i = 1; log 2; }", nil, []api.Trap{api.TrapNull}},
		{"a call of nothing", "var f fn; main { call f; log 2; }", nil, []api.Trap{api.TrapNull}},
		{"an element of nothing", "var a arr; main { log len arr 1; log a[0]; }", []int64{1}, []api.Trap{api.TrapNull}},
		{"how long nothing is", "var a arr; main { log len a; }", nil, []api.Trap{api.TrapNull}},
		{"an element that there is not", "main { var a arr = arr 3; a[2] = 1; log a[2]; a[3] = 1; log 2; }", []int64{1}, []api.Trap{api.TrapIndex}},
		{"an element below 0", "main { var a arr = arr 3; log a[0 - 1]; }", nil, []api.Trap{api.TrapIndex}},
		{"a size below 0", "main { var a arr = arr (0 - 1); log 2; }", nil, []api.Trap{api.TrapSize}},
		{"a size above the greatest", "main { log len arr 65; }", nil, []api.Trap{api.TrapSize}},
		{"numbers that go round", "main { var i int = 1; var n int = 0; while n < 63 { i = i * 2; n = n + 1; } log i < 0; log i - 1 < 0; log i * 2; }", []int64{1, 0, 0}, nil},
		{"a fault is its task's alone", "var a arr; main { var n int = 3; post ui fn { log n; n = a[0]; log n; }; post ui fn { n = n + 1; log n; }; n = 7; }", []int64{7, 8}, []api.Trap{0, api.TrapNull}},
	} {
		r := ran(t, "looper ui; "+c.text)
		if !slices.Equal(r.log, c.log) {
			t.Errorf("%s: log %v, want %v", c.what, r.log, c.log)
		}
		for i, x := range r.tasks {
			want := api.TrapNone
			if i < len(c.traps) {
				want = c.traps[i]
			}
			if x.Trap() != want {
				t.Errorf("%s: task %d: trap %v, want %v", c.what, i, x.Trap(), want)
			}
		}
	}
}

// P10.3: what a program asks of the machine.
func TestTextAsks(t *testing.T) {
	r := ran(t, `looper a; looper b;
		event e on a off { } event k on b on { }
		fn f { log it; }
		main {
			var t tok = null;
			post b f after 7 to t;
			post a f front;
			cancel t;
			var h hand = null;
			spawn fn { post b f; } to h;
			join h;
			enable k;
			disable e;
		}`)
	want := []string{
		fmt.Sprint(api.OpPost, " of looper 1, 7 later"),
		fmt.Sprint(api.OpFront, " of looper 0, 0 later"),
		fmt.Sprint(api.OpCancel, " of 2, 0"),
		fmt.Sprint(api.OpSpawn, " of looper 0, 0 later"),
		fmt.Sprint(api.OpJoin, " of 4, 0"),
		fmt.Sprint(api.OpEnable, " of 0, 1"),
		fmt.Sprint(api.OpDisable, " of 0, 0"),
		fmt.Sprint(api.OpPost, " of looper 1, 0 later"),
	}
	if !slices.Equal(r.asked, want) {
		t.Errorf("asks\n%s\nwant\n%s", strings.Join(r.asked, "\n"), strings.Join(want, "\n"))
	}
	if want := []int64{5, 5, 5}; !slices.Equal(r.log, want) {
		t.Errorf("log %v", r.log)
	}
}

// P10.3: how often what is accessed.
func TestTextAccesses(t *testing.T) {
	r := ran(t, "looper a; class C { i int; } main { var n int = 3; call fn { n = n + 1; }; var c C = new C; c.i = n; var x arr = arr c.i; x[1] = x[0]; log len x; }")
	want := map[api.LocKind]int{api.LocCell: 4, api.LocField: 2, api.LocElem: 2}
	for kind := api.LocGlobal; kind <= api.LocLog; kind++ {
		if r.touched[kind] != want[kind] {
			t.Errorf("kind %d: %d times, want %d", kind, r.touched[kind], want[kind])
		}
	}
}
