package machine_test

import (
	"slices"
	"testing"

	"detent/api"
	"detent/machine"
)

// settled lets all loopers, then all workers, do a step each, as often as one can, and time go on where none can, till nothing comes of it.
func settled(t *testing.T, m *machine.Machine) {
	t.Helper()
	for {
		stepped := false
		for looper := range api.MaxLoopers {
			stepped = m.Run(looper) == api.OK || stepped
		}
		for i := range m.Tasks() {
			stepped = m.Work(i+1) == api.OK || stepped
		}
		if stepped {
			continue
		}
		if m.Can() {
			t.Fatal("a step is possible, but none is done")
		}
		if m.Full() || !slices.ContainsFunc(m.Tasks(), func(x api.Task) bool { return x.State == api.TaskWaits }) {
			return
		}
		does(t, m, "t1")
	}
}

// P11.2, P11.3: whole programs of texts, and what comes from outside ahead of their first step.
func TestTexts(t *testing.T) {
	for _, c := range []struct {
		what, text, ahead string
		log               []int64
		states            string
	}{
		{"a post to the own looper", "looper ui; var g int; main { g = 5; post ui fn { log g; g = 7; }; log g; }", "", []int64{5, 5}, "over over"},
		{"posts one behind the other", "looper ui; looper bg; main { var i int = 0; while i < 3 { var n int = i; post bg fn { log n; }; i = i + 1; } }", "", []int64{0, 1, 2}, "over over over over"},
		{"one variable that all posts capture", "looper ui; main { var i int = 0; while i < 3 { post ui fn { log i; }; i = i + 1; } }", "", []int64{3, 3, 3}, "over over over over"},
		{"delays", "looper ui; main { post ui fn { log 3; } after 3; post ui fn { log 1; } after 1; post ui fn { log 30; } after 3; post ui fn { log 0; }; }", "", []int64{0, 1, 3, 30}, "over over over over over"},
		{"delays, since each was posted", "looper ui; main { post ui fn { log 10; post ui fn { log 15; } after 5; } after 10; post ui fn { log 14; } after 14; post ui fn { log 16; } after 16; }", "", []int64{10, 14, 15, 16}, "over over over over over"},
		{"in front", "looper ui; main { post ui fn { log 1; }; post ui fn { log 2; } front; post ui fn { log 3; } front; }", "", []int64{3, 2, 1}, "over over over over"},
		{"a post that posts itself", "looper ui; var n int; fn f { n = n + 1; if n < 5 { post ui f after 2; } log n; } main { post ui f; }", "", []int64{1, 2, 3, 4, 5}, "over over over over over over"},
		{"a cancel ahead", "looper ui; main { var k tok = null; post ui fn { log 1; } to k; post ui fn { log 2; }; cancel k; cancel k; }", "", []int64{2}, "over cancelled over"},
		{"a cancel of itself", "looper ui; var k tok; main { post ui fn { cancel k; log 1; } to k; }", "", []int64{1}, "over over"},
		{"a cancel of a later one by an earlier one", "looper ui; var k tok; main { post ui fn { log 9; } after 9 to k; post ui fn { log 8; cancel k; } after 8; }", "", []int64{8}, "over cancelled over"},
		{"a cancel of nothing", "looper ui; var k tok; main { log 1; cancel k; log 2; }", "", []int64{1}, "over:1"},
		{"a worker that is joined", "looper ui; var g int; main { var h hand = null; spawn fn { g = g + 5; } to h; join h; log g; }", "", []int64{5}, "over over"},
		{"workers that are joined the other way round", "looper ui; main { var s int = 0; var a hand = null; var b hand = null; spawn fn { s = s + 1; } to a; spawn fn { s = s + 10; } to b; join b; join a; log s; }", "", []int64{11}, "over over over"},
		{"a join of nothing", "looper ui; var h hand; main { spawn fn { log 4; }; join h; log 2; }", "", []int64{4}, "over:1 over"},
		{"two workers that join each other", "looper ui; var a hand; var b hand; main { spawn fn { while b == null { } join b; log 1; } to a; spawn fn { while a == null { } join a; log 2; } to b; log 3; }", "", []int64{3}, "over runs runs"},
		{"a worker that joins itself", "looper ui; var a hand; main { spawn fn { while a == null { } join a; log 1; } to a; join a; log 2; }", "", nil, "runs runs"},
		{"a field of nothing", "looper ui; class C { i int; } var c C; main { post ui fn { log 1; log c.i; log 2; }; post ui fn { log 3; }; log c.i; }", "", []int64{1, 3}, "over:1 over:1 over"},
		{"faults of each kind", "looper ui; fn f { call f; } main { spawn fn { var a arr = arr 3; a[3] = 1; }; spawn fn { log len arr 65; }; spawn f; spawn fn { log 7; }; }", "", []int64{7}, "over over:2 over:3 over:4 over"},
		{"an event, with payloads", "looper ui; looper bg; event e on bg on { log it; } main { log it; }", "i0:5 i0:-6", []int64{0, 5, -6}, "over over over"},
		{"an event that turns another one on, and itself off", "looper ui; event e on ui on { disable e; enable f; log it; } event f on ui off { log it * 100; } main { }", "i0:5 i0:6", []int64{5, 6}, "over over over"},
		{"a component's life", "looper ui; comp c on ui { create { log 0; } start { log 1; } destroy { log 3; } } main { log 9; }", "l0:0 l0:1 l0:2 l0:1 l0:2 l0:3", []int64{9, 0, 1, 1, 3}, "over over over over over"},
		{"a payload is the task's own", "looper ui; event e on ui on { var n int = it; post ui fn { log n * 10 + it; }; spawn fn { log n * 100 + it; }; } main { }", "i0:4", []int64{400, 40}, "over over over over"},
		{"objects that tasks share", "looper ui; class C { next C; n int; } var head C; fn push { var c C = new C; c.next = head; c.n = 1; if (head == null) == 0 { c.n = head.n + 1; } head = c; } main { call push; post ui push; post ui fn { call push; log head.n; }; }", "", []int64{3}, "over over over"},
	} {
		m := made(t, parsed(t, c.text))
		does(t, m, c.ahead)
		settled(t, m)
		if !slices.Equal(m.Log(), c.log) || states(m) != c.states {
			t.Errorf("%s: log %v, want %v; %s", c.what, m.Log(), c.log, states(m))
		}
		if ended := !slices.ContainsFunc(m.Tasks(), func(x api.Task) bool { return x.State == api.TaskRuns }); m.Ended() != ended || ended != (len(m.Blocked()) == 0) {
			t.Errorf("%s: ended %v, blocked %v", c.what, m.Ended(), m.Blocked())
		}
		wantNothingMore(t, m)
	}
}
