package machine_test

import (
	"fmt"
	"math"
	"slices"
	"testing"

	"detent/api"
)

// P11.2: what is said of a task that a task made: of what it is, whose, which of its maker's, since when.
func TestTasksOfTasks(t *testing.T) {
	m := behind(t, around(closure(0, pair, 7, 7), closure(1, spin), post(2, 0, 1, 5), spawn(3, 1), front(4, 1, 0, 9), post(5, 1, 1, api.MaxDelay)), "t7 r0*5 t2 r0*2")
	main := api.Task{Kind: api.TaskMain, Func: tried, State: api.TaskRuns, Mark: -1}
	later := api.Task{Kind: api.TaskPost, Of: 2, Func: pair, Looper: 1, By: 1, Nth: 0, Delay: 5, Due: 12, State: api.TaskWaits, Mark: 1}
	worker := api.Task{Kind: api.TaskSpawn, Of: 3, Func: spin, Looper: -1, By: 1, Nth: 1, Due: 7, State: api.TaskWaits, Mark: 2}
	ahead := api.Task{Kind: api.TaskPost, Of: 4, Func: spin, Looper: 0, By: 1, Nth: 2, Front: true, Due: 9, State: api.TaskWaits, Mark: 3}
	last := api.Task{Kind: api.TaskPost, Of: 5, Func: spin, Looper: 1, By: 1, Nth: 3, Delay: api.MaxDelay, Due: 9 + api.MaxDelay, State: api.TaskWaits, Mark: 4}
	wantMarks(t, m, 0, "1 begins, 1 posts 2, 1 spawns 3, 1 posts 4, 1 posts 5")
	wantTasks(t, m, main, later, worker, ahead, last)
	does(t, m, "r0 w3*3 r0 t3 r1*2")
	main.State, later.State, later.Trap, worker.State, ahead.State = api.TaskOver, api.TaskOver, api.TrapNull, api.TaskRuns, api.TaskRuns
	wantTasks(t, m, main, later, worker, ahead, last)
}

// P11.2: what is said of tasks that come from outside: which of its event's, its component's, which is ahead of it, which mark turned its event on.
func TestTasksFromOutside(t *testing.T) {
	m := behind(t, around(enable(1), disable(0), enable(0), disable(1), enable(1)), "i0:5 t3 l0:0 i0:-9 r0*2 i1:1")
	main := api.Task{Kind: api.TaskMain, Func: tried, State: api.TaskRuns, Mark: -1}
	event := func(e, f, looper, nth, prev, mark int, payload, due int64) api.Task {
		return api.Task{Kind: api.TaskEvent, Of: e, Func: f, Looper: looper, Nth: nth, Due: due, Payload: payload, State: api.TaskWaits, Mark: mark, Prev: prev}
	}
	life := func(which, f, nth, prev int, due int64) api.Task {
		return api.Task{Kind: api.TaskLife, Which: which, Func: f, Looper: 1, Nth: nth, Due: due, State: api.TaskWaits, Mark: -1, Prev: prev}
	}
	want := []api.Task{main,
		event(0, handler, 1, 0, 0, -1, 5, 0),
		life(api.LifeCreate, callback, 0, 0, 3),
		event(0, handler, 1, 1, 2, -1, -9, 3),
		event(1, idle, 0, 0, 0, 2, 1, 3),
	}
	wantTasks(t, m, want...)
	skips(t, m, "l0:0")
	// Start makes no task: its component has none.
	does(t, m, "l0:1 r0")
	skips(t, m, "i0:7")
	does(t, m, "l0:2 r0")
	want = append(want, life(api.LifeStop, callback, 1, 3, 3))
	wantTasks(t, m, want...)
	does(t, m, "i0:3 i1:2 r0")
	want = append(want, event(0, handler, 1, 2, 4, 5, 3, 3), event(1, idle, 0, 1, 5, 2, 2, 3))
	skips(t, m, "i1:1")
	does(t, m, "r0 i1:4 l0:3")
	want = append(want, event(1, idle, 0, 2, 8, 8, 4, 3), life(api.LifeDestroy, handler, 2, 6, 3))
	wantTasks(t, m, want...)
	wantMarks(t, m, 0, "1 begins, 1 writes flag 1 at 0, 1 enables 1, 1 writes flag 0 at 1, 1 writes flag 0 at 2, 1 enables 0, 1 writes flag 1 at 3, 1 writes flag 1 at 4, 1 enables 1")
	// On their looper they run as they were made; of no post, so that none has a token.
	from := len(m.Marks(0))
	does(t, m, "r1*4")
	wantMarks(t, m, from, "2 begins, 2 writes global 1 at 5, 2 ends")
	does(t, m, "r1*2 r1*4 r1*2")
	wantMarks(t, m, from+3, "3 begins, 3 ends, 4 begins, 4 writes global 1 at 5, 4 ends, 6 begins, 6 ends")
	if !slices.Equal(m.Globals(), []int64{0, -9}) {
		t.Errorf("globals %v", m.Globals())
	}
	if tasks := m.Tasks(); tasks[3].State != api.TaskOver || tasks[4].State != api.TaskWaits {
		t.Error(states(m))
	}
}

// P11.2: an event that is on is so from the beginning on; what it was turned on by is the last mark that did.
func TestEvents(t *testing.T) {
	m := made(t, around(enable(0), disable(0)))
	does(t, m, "i0:1")
	skips(t, m, "i1:1 i2:1 i-1:1")
	does(t, m, "r0*2 i0:2 r0")
	skips(t, m, "i0:3")
	for i, x := range m.Tasks()[1:] {
		if x.Kind != api.TaskEvent || x.Mark != -1 || x.Nth != i || x.Payload != int64(i+1) {
			t.Errorf("%+v", x)
		}
	}
	for _, n := range []int64{0, -1, math.MaxInt64, math.MinInt64} {
		m := behind(t, around(), fmt.Sprintf("i0:%d r1*4", n))
		if m.Tasks()[1].Payload != n || !slices.Equal(m.Globals(), []int64{0, n}) {
			t.Errorf("payload %d: %+v, %v", n, m.Tasks()[1], m.Globals())
		}
	}
}

// P11.2: a task of an event that was turned off meanwhile runs still.
func TestEventTurnedOff(t *testing.T) {
	m := behind(t, around(disable(0)), "i0:6 r0*3 r1*4")
	wantMarks(t, m, 0, "1 begins, 1 writes flag 0 at 0, 1 ends, 2 begins, 2 writes global 1 at 1, 2 ends")
	wantLooks(t, m, looks{ended: true})
}

// P11.2: components' lives, each of its own, through all that may be.
func TestLives(t *testing.T) {
	m := made(t, around())
	skips(t, m, "l0:1 l0:2 l0:3 l0:-1 l0:4 l-1:0 l2:0 l1:3")
	does(t, m, "l0:0 l1:0")
	skips(t, m, "l0:0 l0:2 l1:0 l1:2")
	does(t, m, "l0:1 l1:1")
	skips(t, m, "l0:0 l0:1 l0:3 l1:3")
	does(t, m, "l0:2 l1:2 l0:1 l0:2 l1:3")
	skips(t, m, "l0:0 l0:2 l1:0 l1:1 l1:2 l1:3")
	does(t, m, "l0:3")
	skips(t, m, "l0:0 l0:1 l0:2 l0:3")
	var got []int
	for i, x := range m.Tasks()[1:] {
		if x.Kind != api.TaskLife || x.Of != 0 || x.Nth != i || x.Looper != 1 || x.Prev != (i+1)*min(i, 1) {
			t.Errorf("task %d: %+v", i+2, x)
		}
		got = append(got, x.Which)
	}
	if want := []int{api.LifeCreate, api.LifeStop, api.LifeStop, api.LifeDestroy}; !slices.Equal(got, want) {
		t.Errorf("callbacks %v, want %v", got, want)
	}
	does(t, m, "r1*10 r0*2")
	wantMarks(t, m, 0, "2 begins, 2 ends, 3 begins, 3 ends, 4 begins, 4 ends, 5 begins, 5 writes global 1 at 0, 5 ends, 1 begins, 1 ends")
	// Created and destroyed at once; the callbacks wait all the same.
	m = behind(t, around(), "l0:0 l0:3")
	if states(m) != "waits waits waits" {
		t.Error(states(m))
	}
}

// P11.2, P11.3: time goes on by Tick alone, as far as MaxNow; what is due by it begins, and not before.
func TestTime(t *testing.T) {
	m := made(t, around(closure(0, callback), post(1, 0, 1, 5), post(1, 0, 0, 1)))
	skips(t, m, "t0 t-1 t1000000000001 t9223372036854775807 t-9223372036854775808")
	does(t, m, "r0*5 t4")
	if m.Now() != 4 {
		t.Errorf("Now: %d", m.Now())
	}
	skips(t, m, "r1")
	does(t, m, "r0*2 t1 r1*2")
	wantMarks(t, m, 3, "1 ends, 3 begins, 3 writes token 3 at 2, 3 ends, 2 begins, 2 writes token 2 at 1, 2 ends")
	does(t, m, "t999999999994")
	if m.Now() != api.MaxNow-1 {
		t.Errorf("Now: %d", m.Now())
	}
	skips(t, m, "t2")
	does(t, m, "t1")
	if m.Now() != api.MaxNow {
		t.Errorf("Now: %d", m.Now())
	}
	skips(t, m, "t1 t0")
	m = behind(t, around(), "t1000000000000")
	skips(t, m, "t1")
	// What would be due beyond the end of time waits for ever.
	m = behind(t, around(closure(0, idle), post(1, 0, 0, 1)), "t1000000000000 r0*4")
	skips(t, m, "r0 t1")
	wantLooks(t, m, looks{})
	if x := m.Tasks()[1]; x.Due != api.MaxNow+1 {
		t.Errorf("%+v", x)
	}
}

// P11.2, P11.3: a task that joins a worker that is not over is blocked, till that one is.
func TestBlocked(t *testing.T) {
	// The worker 2 sets a global; the worker 3 joins nothing.
	m := made(t, around(closure(0, handler), spawn(1, 0), spawn(2, 0), join(2), join(1)))
	does(t, m, "r0*4")
	for _, step := range []string{"", "w3", "w3", "w3"} {
		does(t, m, step)
		wantLooks(t, m, looks{can: true, blocked: []int{1}})
		if m.Waits(1) != 3 || m.Waits(2) != 0 || m.Waits(3) != 0 || m.Site(1) != 3 {
			t.Errorf("Waits %d, %d, %d, Site %d", m.Waits(1), m.Waits(2), m.Waits(3), m.Site(1))
		}
		skips(t, m, "r0")
		if states(m) != "runs waits runs" && step != "" {
			t.Error(states(m))
		}
	}
	does(t, m, "w3")
	wantLooks(t, m, looks{can: true})
	if m.Waits(1) != 0 || m.Site(1) != 3 {
		t.Errorf("Waits %d, Site %d", m.Waits(1), m.Site(1))
	}
	does(t, m, "r0")
	wantLooks(t, m, looks{can: true, blocked: []int{1}})
	if m.Waits(1) != 2 || m.Site(1) != 4 {
		t.Errorf("Waits %d, Site %d", m.Waits(1), m.Site(1))
	}
	// What waits for the looper begins only behind it; its event is not blocked.
	does(t, m, "i0:1 w2*4 r0*2")
	wantMarks(t, m, 3, "3 begins, 3 writes global 1 at 5, 3 ends, 1 joins 3, 2 begins, 2 writes global 1 at 5, 2 ends, 1 joins 2, 1 ends")
}

// round is a program whose workers join one another's handles, by globals: each of them its next one's, the last one the first one's.
func round(workers int) api.Prog {
	p := api.Prog{Loopers: []string{"ui"}, Globals: make([]api.Global, workers), Funcs: []api.Func{{Regs: 1 + workers}}}
	main := &p.Funcs[0]
	for i := range workers {
		p.Globals[i].Type = api.TypeHand
		p.Funcs = append(p.Funcs, api.Func{Regs: 1, Code: []api.Instr{load(0, int64((i+1)%workers)), join(0), ret()}})
		main = &p.Funcs[0]
		main.Code = append(main.Code, closure(0, i+1), spawn(i+1, 0), store(i+1, int64(i)))
	}
	main.Code = append(main.Code, ret())
	return numbered(p)
}

// P11.3, P11.5: where no step is possible, and tasks are blocked, they wait for workers that are blocked.
func TestRounds(t *testing.T) {
	for workers := 1; workers < 6; workers++ {
		m := behind(t, round(workers), fmt.Sprintf("r0*%d", 2+3*workers))
		var all []int
		for i := range workers {
			wantLooks(t, m, looks{can: true, blocked: all})
			worker := i + 2
			does(t, m, fmt.Sprintf("w%d*2", worker))
			all = append(all, worker)
		}
		wantLooks(t, m, looks{blocked: all})
		for i, worker := range all {
			if next := all[(i+1)%workers]; m.Waits(worker) != next {
				t.Errorf("%d workers: %d waits for %d, want %d", workers, worker, m.Waits(worker), next)
			}
			skips(t, m, fmt.Sprintf("w%d", worker))
			if site := workers*3 + 2*i + 1; m.Site(worker) != site {
				t.Errorf("Site(%d): %d, want %d", worker, m.Site(worker), site)
			}
		}
		does(t, m, "t5")
		wantLooks(t, m, looks{blocked: all})
	}
}

// P11.3: a looper whose task is blocked runs nothing else; others do.
func TestBlockedLooper(t *testing.T) {
	m := behind(t, around(closure(0, spin), spawn(1, 0), closure(2, handler), post(3, 2, 0, 0), front(3, 2, 1, 0), join(1)), "r0*6 w2*9")
	skips(t, m, "r0*2")
	does(t, m, "r1*4 i0:1 r1*4")
	skips(t, m, "r0 r1")
	wantLooks(t, m, looks{can: true, blocked: []int{1}})
	if states(m) != "runs runs waits over over" {
		t.Error(states(m))
	}
}

// P11.3: whose step is possible, and when all is over.
func TestCan(t *testing.T) {
	p := around(closure(0, callback), post(1, 0, 1, 5), spawn(2, 0))
	m := behind(t, p, "r0*5")
	wantLooks(t, m, looks{can: true})
	does(t, m, "w3")
	wantLooks(t, m, looks{can: true})
	does(t, m, "w3")
	// A task waits that is not due: that is no step, but it is not the end.
	wantLooks(t, m, looks{})
	does(t, m, "t5")
	wantLooks(t, m, looks{can: true})
	does(t, m, "r1")
	wantLooks(t, m, looks{can: true})
	does(t, m, "r1")
	wantLooks(t, m, looks{ended: true})
	does(t, m, "l1:0 t8")
	wantLooks(t, m, looks{ended: true})
	does(t, m, "i0:1")
	wantLooks(t, m, looks{can: true})
	does(t, m, "r1*4")
	wantLooks(t, m, looks{ended: true})
	// What was cancelled is over, too.
	m = behind(t, around(closure(0, callback), post(1, 0, 1, 5), cancel(1)), "r0*5")
	wantLooks(t, m, looks{ended: true})
	skips(t, m, "r0 r1 w1 w2")
}

// P11.3: the site of what is next: of a running task alone.
func TestSite(t *testing.T) {
	m := made(t, around(konst(0, 1), store(0, 0), closure(1, spin), spawn(2, 1), api.Instr{Op: api.OpCall, A: 1}))
	for _, want := range []int{-1, -1, 0, 1, 2, 3, -1, -1} {
		if got := m.Site(1); got != want {
			t.Fatalf("Site %d, want %d: %s", got, want, marks(m, 0))
		}
		does(t, m, "r0")
	}
	if m.Site(2) != -1 {
		t.Errorf("Site of what waits: %d", m.Site(2))
	}
	m = behind(t, around(closure(0, handler), spawn(1, 0), post(1, 0, 1, 3), api.Instr{Op: api.OpGet, A: 0, B: 7}), "r0*5 w2*2")
	for task, want := range map[int]int{1: -1, 2: 4, 3: -1, 0: -1, 4: -1, -1: -1, math.MaxInt: -1, math.MinInt: -1} {
		if got := m.Site(task); got != want {
			t.Errorf("Site(%d): %d, want %d", task, got, want)
		}
		if m.Waits(task) != 0 {
			t.Errorf("Waits(%d): %d", task, m.Waits(task))
		}
	}
}

// P11.3: the marks from one on.
func TestMarks(t *testing.T) {
	m := behind(t, around(konst(0, 7), store(0, 0)), "r0*4")
	for from, want := range map[int]int{0: 3, 1: 2, 2: 1, 3: 0, 4: 0, -1: 0, -2: 0, math.MaxInt: 0, math.MinInt: 0} {
		if got := m.Marks(from); len(got) != want {
			t.Errorf("Marks(%d): %+v", from, got)
		}
	}
	if got := m.Marks(1); got[0] != (api.Mark{Kind: api.MarkAccess, Task: 1, Access: api.Access{Loc: api.Loc{Kind: api.LocGlobal}, Write: true}}) || got[1] != (api.Mark{Kind: api.MarkEnd, Task: 1}) {
		t.Errorf("%+v", got)
	}
}

// P11.3: what is told is apart: that it is changed is no matter.
func TestLooksAreApart(t *testing.T) {
	p := around(closure(0, handler), spawn(1, 0), post(1, 0, 1, 3), api.Instr{Op: api.OpArray, A: 3, B: 1}, store(1, 0), logs(1), api.Instr{Op: api.OpSetElem, A: 3, B: 2, C: 1}, join(1))
	script, rest := "i0:5 r0*7 w3*2", "r0*2 t3 r1*8 w3*2"
	m, want := behind(t, p, script), behind(t, p, script)
	before := tell(m)
	clear(m.Tasks())
	clear(m.Globals())
	clear(m.Log())
	clear(m.Marks(0))
	clear(m.Marks(2))
	clear(m.Blocked())
	h := m.Heap()
	h.Set(2, 0, 77)
	h.Make(api.ObjCell, 1, 1, 0, 9)
	for _, x := range h.All() {
		clear(x.Vals)
	}
	if tell(m) != before || !m.Same(want) {
		t.Errorf("%s, was\n%s", tell(m), before)
	}
	// What is told is as it was, though the machine goes on.
	tasks, globals, log, all, heap := m.Tasks(), m.Globals(), m.Log(), m.Marks(0), m.Heap()
	kept := fmt.Sprint(tasks, globals, log, all, heap.Count())
	does(t, m, rest)
	does(t, want, rest)
	if got := fmt.Sprint(tasks, globals, log, all, heap.Count()); got != kept {
		t.Errorf("%s, was\n%s", got, kept)
	}
	if !m.Same(want) || tell(m) != tell(want) {
		t.Errorf("%s, want\n%s", tell(m), tell(want))
	}
}

// P11.2: objects are named by the task that made them.
func TestObjects(t *testing.T) {
	p := around(closure(0, pair, 1, 2), api.Instr{Op: api.OpNew, A: 1}, konst(2, 3), api.Instr{Op: api.OpArray, A: 3, B: 2}, closure(4, callback), spawn(5, 4), api.Instr{Op: api.OpCell, A: 6, N: -1})
	p.Funcs[callback].Code = []api.Instr{{Op: api.OpNew}, {Op: api.OpCell, A: 1, N: 4}, ret()}
	m := behind(t, numbered(p), "r0*7 w2*2 r0 w2*2 r0")
	want := []api.Object{
		{Kind: api.ObjClosure, Of: pair, Vals: []int64{0, 0}, Site: 0, By: 1, Nth: 0},
		{Kind: api.ObjPlain, Of: 0, Vals: []int64{0, 0}, Site: 1, By: 1, Nth: 1},
		{Kind: api.ObjArray, Vals: []int64{0, 0, 0}, Site: 2, By: 1, Nth: 2},
		{Kind: api.ObjClosure, Of: callback, Site: 3, By: 1, Nth: 3},
		{Kind: api.ObjPlain, Vals: []int64{0, 0}, Site: 7, By: 2, Nth: 0},
		{Kind: api.ObjCell, Of: -1, Vals: []int64{0}, Site: 5, By: 1, Nth: 4},
		{Kind: api.ObjCell, Of: 4, Vals: []int64{0}, Site: 8, By: 2, Nth: 1},
	}
	if m.Heap().Count() != len(want) {
		t.Fatalf("%d objects", m.Heap().Count())
	}
	for id, x := range m.Heap().All() {
		if got, want := fmt.Sprint(x), fmt.Sprint(want[id-1]); got != want {
			t.Errorf("the object %d: %s, want %s", id, got, want)
		}
	}
}

// P11.2: as many loopers as may be, each with what is its own.
func TestLoopers(t *testing.T) {
	p := around(closure(0, handler))
	p.Loopers = make([]string, api.MaxLoopers)
	for looper := range p.Loopers {
		p.Funcs[tried].Code = slices.Insert(p.Funcs[tried].Code, 1+looper, post(1+looper%2, 0, looper, 0))
	}
	m := behind(t, numbered(p), fmt.Sprintf("r0*%d", api.MaxLoopers+3))
	skips(t, m, "r-1 r8 r9 r9223372036854775807 r-9223372036854775808")
	for _, looper := range []int{7, 3, 0, 5, 1, 6, 2, 4} {
		from := len(m.Marks(0))
		does(t, m, fmt.Sprintf("r%d*4", looper))
		skips(t, m, fmt.Sprintf("r%d", looper))
		task, site := looper+2, looper+1
		wantMarks(t, m, from, fmt.Sprintf("%d begins, %d writes token %d at %d, %d writes global 1 at 9, %d ends", task, task, task, site, task, task))
	}
	wantLooks(t, m, looks{ended: true})
}
