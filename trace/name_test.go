package trace_test

import (
	"fmt"
	"math"
	"slices"
	"strings"
	"testing"

	"detent/api"
	"detent/trace"
)

// names are the names of all tasks of a run.
func names(r api.Run) []string {
	var l []string
	for i := range r.Tasks {
		l = append(l, trace.Name(r, i+1))
	}
	return l
}

// spans are, of each task, which mark is its beginning, and which its end.
func spans(r api.Run) [][2]int {
	var l [][2]int
	for i := range r.Tasks {
		l = append(l, [2]int{trace.Begin(r, i+1), trace.End(r, i+1)})
	}
	return l
}

// none are numbers that no task of a run has.
func none(r api.Run) []int {
	return []int{0, -1, -7, len(r.Tasks) + 1, len(r.Tasks) + 2, 1 << 31, 1 << 32, 1<<32 + 1, -1 << 32, math.MaxInt, math.MinInt}
}

// P13.2: names, beginnings and ends of a run by hand.
func TestName(t *testing.T) {
	r := rich(t)
	was := apart(r)
	if got, want := names(r), []string{"m", "m/0", "m/1", "e1.0", "e1.1", "c0.0", "c0.1", "m/1/0", "e0.0", "c0.2", "m/1/0/0"}; !slices.Equal(got, want) {
		t.Errorf("%q, want %q", got, want)
	}
	want := [][2]int{{0, 13}, {6, 9}, {5, 10}, {14, 16}, {17, 20}, {12, 15}, {19, -1}, {21, -1}, {-1, -1}, {-1, -1}, {-1, -1}}
	if got := spans(r); !slices.Equal(got, want) {
		t.Errorf("%v, want %v", got, want)
	}
	for _, task := range none(r) {
		if trace.Name(r, task) != "" || trace.Begin(r, task) != -1 || trace.End(r, task) != -1 {
			t.Errorf("task %d: %q, %d, %d", task, trace.Name(r, task), trace.Begin(r, task), trace.End(r, task))
		}
	}
	for _, task := range none(api.Run{}) {
		if trace.Name(api.Run{}, task) != "" || trace.Begin(api.Run{}, task) != -1 || trace.End(api.Run{}, task) != -1 {
			t.Errorf("of no run: task %d", task)
		}
	}
	if !sameRun(r, was) {
		t.Error("it changes what is handed in")
	}
}

// P13.2: each part of each kind of name.
func TestNameOfEachKind(t *testing.T) {
	for want, tasks := range map[string][]api.Task{
		"m":    {mains()},
		"c0.0": {lives(0, 0, 0, 0)},
		"c7.3": {{Kind: api.TaskLife, Of: 7, Nth: 3, Which: 2, Func: 9, Looper: 4, Payload: 5, Mark: -1}},
		"e0.0": {events(0, 0, 0, 0, -1)},
		"e5.9": {events(0, 1, 0, 0, -1), {Kind: api.TaskEvent, Of: 5, Nth: 9, Func: 8, Looper: 4, Payload: 5, Mark: -1}},
		"m/0":  {mains(), posts(1, 0, 0, 0)},
		// The number of a site is no part of a name.
		"m/12":        {mains(), {Kind: api.TaskSpawn, By: 1, Nth: 12, Of: 77, Looper: -1}},
		"c1.2/3":      {lives(1, 0, 2, 0), posts(1, 0, 3, 0)},
		"e1.2/3/4/55": {mains(), events(1, 0, 2, 0, 0), posts(2, 0, 3, 0), spawns(3, 4, 0), posts(4, 0, 55, 0)},
		// A main of another Nth is 'm' still; numbers are told as they are.
		"m/-4":                   {{Kind: api.TaskMain, Nth: 6, Of: 8, Mark: -1}, posts(1, 0, -4, 0)},
		"c-1.-2":                 {lives(-1, 0, -2, 0)},
		"e9223372036854775807.0": {events(math.MaxInt, 0, 0, 0, -1)},
		"e0.0/1":                 {events(0, 0, 0, 0, -1), mains(), posts(1, 0, 1, 0)},
		"e0.0/100":               {mains(), events(0, 0, 0, 0, -1), lives(0, 0, 0, 0), posts(2, 0, 100, 0)},
	} {
		if got := trace.Name(api.Run{Tasks: tasks}, len(tasks)); got != want {
			t.Errorf("%q, want %q", got, want)
		}
	}
}

// P13.2: makers of makers, as many as may be.
func TestNameOfMany(t *testing.T) {
	r := api.Run{Tasks: []api.Task{mains()}, Marks: marked(t, "1 begins")}
	want := "m"
	for task := 2; task <= api.MaxTasks; task++ {
		r.Tasks = append(r.Tasks, spawns(task-1, task%7, len(r.Marks)))
		r.Marks = append(r.Marks, api.Mark{Kind: api.MarkSpawn, Task: task - 1, Other: task}, api.Mark{Kind: api.MarkBegin, Task: task})
		want += fmt.Sprint("/", task%7)
		if got := trace.Name(r, task); got != want {
			t.Fatalf("task %d: %q, want %q", task, got, want)
		}
		if trace.Begin(r, task) != len(r.Marks)-1 || trace.End(r, task) != -1 {
			t.Errorf("task %d: %d, %d", task, trace.Begin(r, task), trace.End(r, task))
		}
	}
	wantMay(t, "makers of makers", r)
	// A machine's own.
	m := ended(t, parsed(t, "looper ui; var n int; fn f { n = n + 1; if n < 256 { post ui f; } } main { call f; }"), "")
	got := trace.Name(trace.Take(m), api.MaxTasks)
	if want := "m" + strings.Repeat("/0", api.MaxTasks-1); got != want || m.Full() {
		t.Errorf("%q, want %q", got, want)
	}
}

// P13.2: names through several makers of a whole program: each task's log is where it stands in its name.
func TestNameOfPrograms(t *testing.T) {
	for _, c := range []struct{ text, script, want string }{
		{"looper ui; main { }", "", "m"},
		// The second one that main makes.
		{"looper ui; looper bg; main { post ui fn { }; post bg fn { }; }", "run 0 * 8", "m m/0 m/1"},
		{"looper ui; main { post ui fn { }; spawn fn { }; post ui fn { } front; post ui fn { } after 9; }", "", "m m/0 m/1 m/2 m/3"},
		{"looper ui; main { post ui fn { spawn fn { post ui fn { }; spawn fn { }; }; }; post ui fn { post ui fn { }; }; }", "", "m m/0 m/1 m/0/0 m/0/0/0 m/1/0 m/0/0/1"},
		{"looper ui; event e on ui on { post ui fn { }; } event f on ui on { spawn fn { }; } main { }", "inject 1 5, inject 0 5, inject 1 5, inject 0 5", "m e1.0 e0.0 e1.1 e0.1 e1.0/0 e0.0/0 e1.1/0 e0.1/0"},
		{"looper ui; comp c on ui { create { } stop { spawn fn { }; } } comp d on ui { start { } } main { }", "life 0 0, life 1 0, life 0 1, life 1 1, life 0 2, life 0 1, life 0 2", "m c0.0 c1.0 c0.1 c0.2 c0.1/0 c0.2/0"},
		{"looper ui; event e on ui off { enable e; } main { enable e; var k tok = null; post ui fn { } to k; cancel k; disable e; enable e; }", "run 0 * 10, inject 0 1, inject 0 2", "m m/0 e0.0 e0.1"},
	} {
		m := ended(t, parsed(t, c.text), c.script)
		if got := strings.Join(names(trace.Take(m)), " "); got != c.want {
			t.Errorf("%s: %s, want %s", c.text, got, c.want)
		}
	}
}

// P13.2: of a machine under way: a task that waits, one that runs, one that is over, one that was cancelled.
func TestSpans(t *testing.T) {
	p := parsed(t, "looper ui; looper bg; var g int; main { var k tok = null; post ui fn { } to k; cancel k; post bg fn { g = 1; while 1 { } }; post bg fn { }; spawn fn { g = 2; }; }")
	m := behind(t, p, "run 0 * 13, run 1 * 6, work 5 * 4")
	r := trace.Take(m)
	// 1 begins, 1 posts 2, 1 cancels, 1 posts 3, 1 posts 4, 1 spawns 5, 1 ends; 3 begins, writes its token, writes g; 5 begins, writes g, ends.
	want := [][2]int{{0, 6}, {-1, -1}, {7, -1}, {-1, -1}, {10, 12}}
	if got := spans(r); !slices.Equal(got, want) || len(r.Marks) != 13 {
		t.Errorf("%v of %d marks, want %v", got, len(r.Marks), want)
	}
}

// Of runs that may not be nothing is promised but that an answer comes.
func TestNameEnds(t *testing.T) {
	for what, r := range map[string]api.Run{
		"a task that made itself":       {Tasks: []api.Task{posts(1, 0, 0, 0)}},
		"tasks that made each other":    {Tasks: []api.Task{spawns(2, 0, 0), spawns(1, 1, 0)}},
		"a task without a maker":        {Tasks: []api.Task{posts(0, 0, 0, 0), posts(-5, 0, 0, 0), posts(99, 0, 0, 0), posts(math.MaxInt, 0, 0, 0), posts(math.MinInt, 0, 0, 0)}},
		"tasks of no kind":              {Tasks: []api.Task{{}, {Kind: -1, By: 1}, {Kind: 99, By: 2}}},
		"marks of tasks that there are": {Tasks: []api.Task{mains()}, Marks: marked(t, "1 ends, 1 ends, 2 begins, 0 begins, -1 ends")},
		"makers far too deep":           deep(1 << 20),
	} {
		for _, task := range append(none(r), 1, 2, len(r.Tasks)) {
			trace.Name(r, task)
			trace.Begin(r, task)
			trace.End(r, task)
		}
		if trace.May(r) {
			t.Errorf("%s may be", what)
		}
	}
}

// deep is a run of so many tasks, each of which made the next one.
func deep(n int) api.Run {
	r := api.Run{Tasks: []api.Task{mains()}}
	for task := 2; task <= n; task++ {
		r.Tasks = append(r.Tasks, spawns(task-1, 0, 0))
	}
	return r
}
