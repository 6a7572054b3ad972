package trace_test

import (
	"math"
	"slices"
	"testing"

	"detent/api"
	"detent/machine"
	"detent/trace"
)

// rich is a run by hand with tasks and marks of each kind, some tasks that wait, and some that run.
func rich(t *testing.T) api.Run {
	t.Helper()
	return api.Run{
		Tasks: []api.Task{
			mains(),
			posts(1, 1, 0, 1),
			spawns(1, 1, 2),
			events(1, 0, 0, 0, 4),
			events(1, 0, 1, 4, 4),
			lives(0, 1, 0, 0),
			lives(0, 1, 1, 6),
			posts(3, 0, 0, 8),
			events(0, 1, 0, 0, -1),
			lives(0, 1, 2, 7),
			spawns(8, 0, 22),
		},
		Marks: marked(t, "1 begins, 1 posts 2, 1 spawns 3, 1 writes 0, 1 enables 1, 3 begins, 2 begins, 2 writes 1, 3 posts 8, 2 ends, 3 ends, 1 joins 3, "+
			"6 begins, 1 ends, 4 begins, 6 ends, 4 ends, 5 begins, 5 reads 0, 7 begins, 5 ends, 8 begins, 8 spawns 11, 8 reads 1"),
	}
}

// wantMay holds that a run may be, or that it may not, for these causes alone.
func wantMay(t *testing.T, what string, r api.Run, causes ...string) {
	t.Helper()
	was := apart(r)
	got, why := trace.May(r), broken(r)
	if got != (len(causes) == 0) {
		t.Errorf("%s: May is %v, want %v", what, got, !got)
	}
	slices.Sort(causes)
	slices.Sort(why)
	if !slices.Equal(why, causes) {
		t.Errorf("%s: it breaks %q, want %q", what, why, causes)
	}
	if !sameRun(r, was) {
		t.Errorf("%s: May changes what is handed in", what)
	}
}

// P13.1: a run by hand may be, and so may each of its beginnings whose tasks were made up to there.
func TestMay(t *testing.T) {
	wantMay(t, "rich", rich(t))
	for what, r := range map[string]api.Run{
		"no tasks":                                                    {},
		"no tasks, but lists":                                         {Tasks: []api.Task{}, Marks: []api.Mark{}},
		"a task that waits":                                           {Tasks: []api.Task{mains()}},
		"a task that runs":                                            {Tasks: []api.Task{mains()}, Marks: marked(t, "1 begins")},
		"a task that is over":                                         {Tasks: []api.Task{mains()}, Marks: marked(t, "1 begins, 1 ends")},
		"no main":                                                     {Tasks: []api.Task{events(3, 7, 0, 0, -1)}, Marks: marked(t, "1 begins, 1 ends")},
		"two mains of two loopers":                                    {Tasks: []api.Task{mains(), {Kind: api.TaskMain, Looper: 1, Mark: -1}}, Marks: marked(t, "1 begins, 2 begins")},
		"numbers far from others":                                     {Tasks: []api.Task{events(math.MinInt, math.MaxInt, math.MinInt, 0, math.MinInt), events(math.MinInt, math.MaxInt, math.MaxInt, 1, -1)}},
		"what is accessed is no matter":                               {Tasks: []api.Task{mains()}, Marks: []api.Mark{{Kind: api.MarkBegin, Task: 1}, {Kind: api.MarkAccess, Task: 1, Access: api.Access{Site: -5, Loc: api.Loc{Kind: 99, A: -1}}}}},
		"what other marks have is no matter":                          {Tasks: []api.Task{mains()}, Marks: []api.Mark{{Kind: api.MarkBegin, Task: 1, Other: 7}, {Kind: api.MarkAccess, Task: 1, Other: -7}, {Kind: api.MarkEnd, Task: 1, Other: 1}}},
		"what else tasks have is no matter":                           {Tasks: []api.Task{{Kind: api.TaskMain, Mark: -1, Of: 5, Which: 9, Func: -3, By: 4, Nth: -1, Front: true, Delay: -9, Due: -1, Payload: 3, State: 77, Trap: 12}}},
		"an event of a number below 0":                                {Tasks: []api.Task{events(-1, 0, 0, 0, -1)}},
		"workers beside one another":                                  {Tasks: []api.Task{mains(), spawns(1, 0, 1), spawns(1, 1, 2)}, Marks: marked(t, "1 begins, 1 spawns 2, 1 spawns 3, 3 begins, 2 begins, 3 ends, 2 ends")},
		"workers of numbers below 0":                                  {Tasks: []api.Task{mains(), {Kind: api.TaskSpawn, By: 1, Looper: math.MinInt, Mark: 1}}, Marks: marked(t, "1 begins, 1 spawns 2")},
		"a worker that is joined twice":                               {Tasks: []api.Task{mains(), spawns(1, 0, 1)}, Marks: marked(t, "1 begins, 1 spawns 2, 2 begins, 2 ends, 1 joins 2, 1 joins 2")},
		"an event that is turned on twice":                            {Tasks: []api.Task{mains(), events(3, 0, 0, 0, 1)}, Marks: marked(t, "1 begins, 1 enables 3, 1 enables 3")},
		"an event turned on that has no task":                         {Tasks: []api.Task{mains()}, Marks: marked(t, "1 begins, 1 enables 9999, 1 enables 0")},
		"Mark behind which all is":                                    {Tasks: []api.Task{mains(), events(3, 0, 0, 0, 3)}, Marks: marked(t, "1 begins, 1 writes 1, 1 writes 1, 1 enables 3")},
		"Mark just ahead of the beginning":                            {Tasks: []api.Task{mains(), events(3, 1, 0, 0, 1)}, Marks: marked(t, "1 begins, 1 enables 3, 2 begins")},
		"Prev that runs, while this one waits, and that waits itself": {Tasks: []api.Task{events(3, 1, 0, 0, -1), events(3, 1, 1, 1, -1), events(3, 1, 2, 2, -1)}, Marks: marked(t, "1 begins")},
		"Prev that is over, just ahead":                               {Tasks: []api.Task{events(3, 1, 0, 0, -1), events(3, 1, 1, 1, -1)}, Marks: marked(t, "1 begins, 1 ends, 2 begins")},
		"Prev that is left out":                                       {Tasks: []api.Task{lives(3, 1, 0, 0), lives(3, 1, 1, 1), lives(3, 1, 2, 1)}, Marks: marked(t, "1 begins, 1 ends, 3 begins, 3 ends, 2 begins")},
		"no Prev, though there could be one":                          {Tasks: []api.Task{lives(3, 1, 0, 0), lives(3, 1, 1, 0)}, Marks: marked(t, "2 begins, 2 ends, 1 begins")},
	} {
		wantMay(t, what, r)
	}
}

// P13.1: each clause is broken alone by a run that is one change away from one that may be.
func TestMayNot(t *testing.T) {
	for _, c := range []struct {
		what   string
		change func(r *api.Run)
		causes []string
	}{
		{"a task of kind 0", func(r *api.Run) { r.Tasks[0].Kind = 0 }, []string{"a task's kind"}},
		{"a task of a kind below 0", func(r *api.Run) { r.Tasks[0].Kind = -1 }, []string{"a task's kind"}},
		{"a task of one kind more", func(r *api.Run) { r.Tasks[0].Kind = api.TaskSpawn + 1 }, []string{"a task's kind"}},
		{"a task that does nothing, of no kind", func(r *api.Run) { r.Tasks = append(r.Tasks, api.Task{Mark: -1}) }, []string{"a task's kind"}},

		{"a mark of task 0", func(r *api.Run) { r.Marks[3].Task = 0 }, []string{"a mark's task"}},
		{"a mark of a task below 0", func(r *api.Run) { r.Marks[3].Task = math.MinInt }, []string{"a mark's task"}},
		{"a mark of one task more", func(r *api.Run) { r.Marks[3].Task = len(r.Tasks) + 1 }, []string{"a mark's task"}},
		{"a mark of a task far away", func(r *api.Run) { r.Marks[3].Task = math.MaxInt }, []string{"a mark's task"}},
		{"a beginning of task 0", func(r *api.Run) { r.Marks = append(r.Marks, api.Mark{Kind: api.MarkBegin}) }, []string{"a mark's task"}},
		{"a mark of kind 0", func(r *api.Run) { r.Marks[3].Kind = 0 }, []string{"a mark's kind"}},
		{"a mark of a kind below 0", func(r *api.Run) { r.Marks[3].Kind = -7 }, []string{"a mark's kind"}},
		{"a mark of one kind more", func(r *api.Run) { r.Marks[3].Kind = api.MarkEnable + 1 }, []string{"a mark's kind"}},

		{"two beginnings", func(r *api.Run) { r.Marks[3] = api.Mark{Kind: api.MarkBegin, Task: 1} }, []string{"it begins once"}},
		{"a beginning behind the end", func(r *api.Run) { r.Marks = append(r.Marks, api.Mark{Kind: api.MarkBegin, Task: 3}) }, []string{"it begins once", "nothing behind its end"}},
		{"an access ahead of the beginning", func(r *api.Run) { r.Marks[18].Task = 8 }, []string{"it begins first"}},
		{"an access and no beginning", func(r *api.Run) { r.Marks[18].Task = 9 }, []string{"it begins first"}},
		{"an end and no beginning", func(r *api.Run) { r.Marks = append(r.Marks, api.Mark{Kind: api.MarkEnd, Task: 9}) }, []string{"it begins first"}},
		{"an access behind the end", func(r *api.Run) { r.Marks[18].Task = 1 }, []string{"nothing behind its end"}},
		{"an end behind the end", func(r *api.Run) { r.Marks[18] = api.Mark{Kind: api.MarkEnd, Task: 1} }, []string{"nothing behind its end"}},

		{"a post makes none", func(r *api.Run) { r.Marks[18] = api.Mark{Kind: api.MarkPost, Task: 5} }, []string{"greater than its maker", "what is made is such a task"}},
		{"a post makes one task more", func(r *api.Run) { r.Marks[18] = api.Mark{Kind: api.MarkPost, Task: 5, Other: 12} }, []string{"what is made is such a task"}},
		{"a spawn makes a task far away", func(r *api.Run) { r.Marks[18] = api.Mark{Kind: api.MarkSpawn, Task: 5, Other: math.MaxInt} }, []string{"what is made is such a task"}},
		{"a spawn makes one below 0", func(r *api.Run) { r.Marks[18] = api.Mark{Kind: api.MarkSpawn, Task: 5, Other: -1} }, []string{"greater than its maker", "what is made is such a task"}},
		{"a post makes a worker", func(r *api.Run) { r.Marks[22].Kind = api.MarkPost }, []string{"what is made is such a task", "Mark made the worker"}},
		{"a spawn makes a post", func(r *api.Run) { r.Marks[1].Kind = api.MarkSpawn }, []string{"what is made is such a task", "Mark made the post"}},
		{"a post makes main", func(r *api.Run) { r.Tasks[1] = api.Task{Kind: api.TaskMain, By: 1, Looper: 1, Mark: -1} }, []string{"what is made is such a task", "Mark is the one that makes it"}},
		{"a post makes an event's task", func(r *api.Run) { r.Tasks[1] = events(2, 1, 0, 0, -1) }, []string{"what is made is such a task", "By is its maker", "Mark is the one that makes it"}},
		{"what is made has no By", func(r *api.Run) { r.Tasks[1].By = 0 }, []string{"By is its maker"}},
		{"what is made has another By", func(r *api.Run) { r.Tasks[2].By = 2 }, []string{"By is its maker"}},
		{"what is made has itself as By", func(r *api.Run) { r.Tasks[2].By = 3 }, []string{"By is its maker"}},
		{"what is made has a smaller number", func(r *api.Run) {
			*r = api.Run{Tasks: []api.Task{mains(), posts(3, 1, 0, 3), spawns(1, 0, 1)}, Marks: marked(t, "1 begins, 1 spawns 3, 3 begins, 3 posts 2")}
		}, []string{"greater than its maker"}},
		{"a post makes itself", func(r *api.Run) {
			*r = api.Run{Tasks: []api.Task{posts(1, 0, 0, 1)}, Marks: marked(t, "1 begins, 1 posts 1")}
		}, []string{"greater than its maker", "made ahead of its beginning", "Mark is ahead"}},
		{"what is made is made twice", func(r *api.Run) { r.Marks[23] = api.Mark{Kind: api.MarkSpawn, Task: 8, Other: 11} }, []string{"Mark is the one that makes it"}},
		{"what is made has the Mark ahead", func(r *api.Run) { r.Tasks[10].Mark = 21 }, []string{"Mark is the one that makes it", "Mark made the worker"}},
		{"what is made has no Mark", func(r *api.Run) { r.Tasks[10].Mark = -1 }, []string{"Mark is the one that makes it", "Mark made the worker"}},
		{"what is made has begun", func(r *api.Run) {
			r.Marks[22], r.Marks[23] = api.Mark{Kind: api.MarkBegin, Task: 11}, r.Marks[22]
			r.Tasks[10].Mark = 23
		}, []string{"made ahead of its beginning", "Mark is ahead"}},

		{"a join of no task", func(r *api.Run) { r.Marks[11].Other = 0 }, []string{"who is joined is a worker", "who is joined is over"}},
		{"a join of a task below 0", func(r *api.Run) { r.Marks[11].Other = -3 }, []string{"who is joined is a worker", "who is joined is over"}},
		{"a join of one task more", func(r *api.Run) { r.Marks[11].Other = 12 }, []string{"who is joined is a worker", "who is joined is over"}},
		{"a join of a post that is over", func(r *api.Run) { r.Marks[11].Other = 2 }, []string{"who is joined is a worker"}},
		{"a join of main that is over", func(r *api.Run) { r.Marks[18] = api.Mark{Kind: api.MarkJoin, Task: 5, Other: 1} }, []string{"who is joined is a worker"}},
		{"a join of an event's task that is over", func(r *api.Run) { r.Marks[18] = api.Mark{Kind: api.MarkJoin, Task: 5, Other: 4} }, []string{"who is joined is a worker"}},
		{"a join of a callback that is over", func(r *api.Run) { r.Marks[18] = api.Mark{Kind: api.MarkJoin, Task: 5, Other: 6} }, []string{"who is joined is a worker"}},
		{"a join of a worker that is not over", func(r *api.Run) { r.Marks[10], r.Marks[11] = r.Marks[11], r.Marks[10] }, []string{"who is joined is over"}},
		{"a join of a worker that has not begun", func(r *api.Run) { r.Marks[23] = api.Mark{Kind: api.MarkJoin, Task: 8, Other: 11} }, []string{"who is joined is over"}},
		{"a join of itself", func(r *api.Run) { r.Marks[8] = api.Mark{Kind: api.MarkJoin, Task: 3, Other: 3}; r.Tasks[7].Mark = -1 }, []string{"who is joined is over", "Mark made the post"}},

		{"an event below 0 is turned on", func(r *api.Run) { r.Marks[3] = api.Mark{Kind: api.MarkEnable, Task: 1, Other: -1} }, []string{"an event's number"}},
		{"an event far below 0 is turned on", func(r *api.Run) { r.Marks[3] = api.Mark{Kind: api.MarkEnable, Task: 1, Other: math.MinInt} }, []string{"an event's number"}},

		{"main has a Mark", func(r *api.Run) { r.Tasks[0].Mark = 0 }, []string{"Mark is ahead", "Mark of others"}},
		{"a callback has a Mark", func(r *api.Run) { r.Tasks[5].Mark = 4 }, []string{"Mark of others"}},
		{"a callback has the mark that made another task", func(r *api.Run) { r.Tasks[6].Mark = 1 }, []string{"Mark of others"}},
		{"a post that nobody made", func(r *api.Run) { r.Tasks = append(r.Tasks, posts(1, 0, 0, -1)) }, []string{"Mark made the post"}},
		{"a worker that nobody made", func(r *api.Run) { r.Tasks = append(r.Tasks, spawns(0, 0, -1)) }, []string{"Mark made the worker"}},
		{"a post of another one's Mark", func(r *api.Run) { r.Tasks = append(r.Tasks, posts(1, 0, 0, 1)) }, []string{"Mark made the post"}},
		{"a worker of another one's Mark", func(r *api.Run) { r.Tasks = append(r.Tasks, spawns(1, 0, 2)) }, []string{"Mark made the worker"}},
		{"a post of a Mark that turned an event on", func(r *api.Run) { r.Tasks = append(r.Tasks, posts(1, 0, 0, 4)) }, []string{"Mark made the post"}},
		{"an event's task of a Mark that is an access", func(r *api.Run) { r.Tasks[4].Mark = 3 }, []string{"Mark turned the event on"}},
		{"an event's task of a Mark that made a task", func(r *api.Run) { r.Tasks[4].Mark = 2 }, []string{"Mark turned the event on"}},
		{"an event's task of another event's Mark", func(r *api.Run) { r.Tasks[8].Mark = 4 }, []string{"Mark turned the event on"}},
		{"an event's task, and another event turned on", func(r *api.Run) { r.Marks[4].Other = 2 }, []string{"Mark turned the event on"}},
		{"an event's task of a Mark behind it", func(r *api.Run) {
			r.Marks[23] = api.Mark{Kind: api.MarkEnable, Task: 8, Other: 1}
			r.Tasks[4].Mark = 23
		}, []string{"Mark is ahead"}},
		{"an event's task of a Mark that there is not", func(r *api.Run) { r.Tasks[8].Mark = len(r.Marks) }, []string{"Mark is ahead", "Mark turned the event on"}},
		{"an event's task of a Mark far away", func(r *api.Run) { r.Tasks[8].Mark = math.MaxInt }, []string{"Mark is ahead", "Mark turned the event on"}},

		{"Prev of main", func(r *api.Run) { *r = api.Run{Tasks: []api.Task{mains(), {Kind: api.TaskMain, Prev: 1, Mark: -1}}} }, []string{"Prev of a callback, of an event"}},
		{"Prev of a post", func(r *api.Run) { r.Tasks[7].Prev = 2; r.Tasks[7].Looper = 1 }, []string{"Prev of a callback, of an event", "a looper's tasks one by one"}},
		{"Prev of a worker", func(r *api.Run) { r.Tasks[10].Prev = 3 }, []string{"Prev of a callback, of an event"}},
		{"Prev is the task itself", func(r *api.Run) { r.Tasks[8].Prev = 9 }, []string{"Prev is smaller"}},
		{"Prev is a greater one", func(r *api.Run) { r.Tasks = append(r.Tasks, events(0, 1, 1, 0, -1)); r.Tasks[8].Prev = 12 }, []string{"Prev is smaller"}},
		{"Prev is below 0", func(r *api.Run) { r.Tasks[8].Prev = -1 }, []string{"Prev is smaller"}},
		{"Prev is one task more", func(r *api.Run) { r.Tasks[8].Prev = 12 }, []string{"Prev is smaller"}},
		{"Prev is far away", func(r *api.Run) { r.Tasks[8].Prev = math.MaxInt }, []string{"Prev is smaller"}},
		{"Prev is of another kind", func(r *api.Run) { r.Tasks[8].Prev = 6 }, []string{"Prev is of the same kind"}},
		{"Prev is of another event", func(r *api.Run) { r.Tasks[4].Of, r.Tasks[4].Mark = 2, -1 }, []string{"Prev is of the same"}},
		{"Prev is of another component", func(r *api.Run) { r.Tasks[9].Of = 1 }, []string{"Prev is of the same"}},
		{"Prev is of another looper", func(r *api.Run) { r.Tasks[9].Looper = 0 }, []string{"Prev is of the same looper"}},
		{"Prev has not begun, but this one has", func(r *api.Run) { r.Marks[19].Task = 10 }, []string{"Prev is over ahead"}},
		{"Prev begins, and is over, behind this one", func(r *api.Run) {
			*r = api.Run{Tasks: []api.Task{lives(3, 1, 0, 0), lives(3, 1, 1, 1)}, Marks: marked(t, "2 begins, 2 ends, 1 begins, 1 ends")}
		}, []string{"Prev is over ahead"}},
		{"Prev begins behind this one", func(r *api.Run) {
			*r = api.Run{Tasks: []api.Task{events(3, 1, 0, 0, -1), events(3, 1, 1, 1, -1)}, Marks: marked(t, "2 begins, 2 ends, 1 begins")}
		}, []string{"Prev is over ahead"}},
		{"Prev runs, while this one begins", func(r *api.Run) { r.Marks[23] = api.Mark{Kind: api.MarkBegin, Task: 10} }, []string{"Prev is over ahead", "a looper's tasks one by one"}},

		{"a worker of a looper", func(r *api.Run) { r.Tasks[10].Looper = 2 }, []string{"workers, and loopers"}},
		{"main of no looper", func(r *api.Run) { r.Tasks[0].Looper = -1 }, []string{"workers, and loopers"}},
		{"a post of no looper", func(r *api.Run) { r.Tasks[1].Looper = -1 }, []string{"workers, and loopers"}},
		{"an event's task of no looper", func(r *api.Run) { r.Tasks[8].Looper = math.MinInt }, []string{"workers, and loopers"}},
		{"a callback of no looper", func(r *api.Run) { r.Tasks[5].Looper, r.Tasks[6].Prev = -1, 0 }, []string{"workers, and loopers"}},

		{"two tasks of one looper beside one another", func(r *api.Run) { r.Tasks[1].Looper = 0 }, []string{"a looper's tasks one by one"}},
		{"one begins on its looper, while another one runs", func(r *api.Run) { r.Marks[20], r.Marks[21] = r.Marks[21], r.Marks[20] }, []string{"a looper's tasks one by one"}},
		{"one begins, while the one that runs is never over", func(r *api.Run) { r.Marks = append(r.Marks, api.Mark{Kind: api.MarkBegin, Task: 9}) }, []string{"a looper's tasks one by one"}},
	} {
		r := rich(t)
		c.change(&r)
		wantMay(t, c.what, r, c.causes...)
	}
}

// manyTasks is a run of so many tasks that wait.
func manyTasks(n int) api.Run {
	var r api.Run
	for i := range n {
		r.Tasks = append(r.Tasks, events(0, 1, i, i, -1))
	}
	return r
}

// manyMarks is a run of so many marks, of one task.
func manyMarks(t *testing.T, n int) api.Run {
	return api.Run{Tasks: []api.Task{mains()}, Marks: append(marked(t, "1 begins"), slices.Repeat(marked(t, "1 writes 0"), n-1)...)}
}

// P13.1: just so many tasks and marks as may be, and one more.
func TestMayAtMost(t *testing.T) {
	for n, may := range map[int]bool{api.MaxTasks - 1: true, api.MaxTasks: true, api.MaxTasks + 1: false, 3 * api.MaxTasks: false} {
		if got := trace.May(manyTasks(n)); got != may {
			t.Errorf("%d tasks: %v", n, got)
		}
	}
	for n, may := range map[int]bool{3*api.MaxSteps - 1: true, 3 * api.MaxSteps: true, 3*api.MaxSteps + 1: false, 6 * api.MaxSteps: false} {
		if got := trace.May(manyMarks(t, n)); got != may {
			t.Errorf("%d marks: %v", n, got)
		}
	}
	// As many of both as may be, all of which begin and are over.
	r := manyTasks(api.MaxTasks)
	for i := range r.Tasks {
		r.Marks = append(r.Marks, api.Mark{Kind: api.MarkBegin, Task: i + 1})
		for range 3*api.MaxSteps/api.MaxTasks - 2 {
			r.Marks = append(r.Marks, api.Mark{Kind: api.MarkAccess, Task: i + 1})
		}
		r.Marks = append(r.Marks, api.Mark{Kind: api.MarkEnd, Task: i + 1})
	}
	if !trace.May(r) {
		t.Error("many tasks and marks may not be")
	}
	r.Marks[len(r.Marks)-1].Task = 1
	if trace.May(r) {
		t.Error("the last mark of many is behind its task's end, but may be")
	}
}

// P13.1: a machine's run is its tasks and its marks; nothing of it is the machine's own.
func TestTake(t *testing.T) {
	for what, m := range map[string]*machine.Machine{"nil": nil, "a zero one": {}} {
		if r := trace.Take(m); len(r.Tasks)+len(r.Marks) > 0 || !trace.May(r) {
			t.Errorf("%s: %+v", what, r)
		}
	}
	p := parsed(t, "looper ui; looper bg; var g int; event e on bg on { g = it; } main { post bg fn { log g; }; }")
	m := made(t, p)
	if r := trace.Take(m); !slices.Equal(r.Tasks, m.Tasks()) || len(r.Tasks) != 1 || len(r.Marks) > 0 {
		t.Errorf("a new one: %+v", r)
	}
	m = ended(t, p, "run 0 * 4, inject 0 7")
	want := marked(t, "1 begins, 1 posts 2, 1 ends, 2 begins, 2 writes 2, 2 reads 0, 2 writes 0, 2 ends, 3 begins, 3 writes 0, 3 ends")
	want[4].Access.Loc = api.Loc{Kind: api.LocToken, A: 2}
	want[6].Access.Loc = api.Loc{Kind: api.LocLog}
	r := trace.Take(m)
	for i := range min(len(r.Marks), len(want)) {
		// Sites are the program's matter.
		want[i].Access.Site = r.Marks[i].Access.Site
	}
	if !slices.Equal(r.Marks, want) || len(r.Tasks) != 3 || !sameRun(r, api.Run{Tasks: m.Tasks(), Marks: m.Marks(0)}) {
		t.Errorf("%+v", r)
	}
	wantMay(t, "of a machine", r)
	was := m.Copy()
	r.Tasks[0].Kind, r.Marks[0].Kind, r.Marks[9].Access.Write = 0, 0, false
	if !m.Same(was) || !sameRun(trace.Take(m), trace.Take(was)) || trace.Take(m).Tasks[0].Kind != api.TaskMain {
		t.Error("what was taken is the machine's own")
	}
	again := trace.Take(m)
	m.Inject(0, 1)
	m.Run(1)
	if len(again.Tasks) != 3 || len(again.Marks) != 11 || len(trace.Take(m).Tasks) != 4 || len(trace.Take(m).Marks) != 12 {
		t.Error("what was taken goes on with the machine")
	}
}
