package machine_test

import (
	"slices"

	"detent/api"
	"detent/heap"
	"detent/step"
)

// teller is a machine by the chapter's words alone: tasks stand in one list, and what comes first is looked for in it.
type teller struct {
	p       api.Prog
	code    *step.Code
	heap    *heap.Heap
	globals []int64
	log     []int64
	on      []bool
	turned  []int // of each event its last MarkEnable
	states  []int // of each component
	tasks   []tellerTask
	marks   []api.Mark
	now     int64
	steps   int
	full    bool
	why     string // what was done, or why not
}

type tellerTask struct {
	api.Task
	thread *step.Thread
}

func newTeller(p api.Prog) *teller {
	code, _ := step.New(p)
	w := &teller{p: p, code: code, heap: heap.New(), globals: make([]int64, len(p.Globals))}
	for _, e := range p.Events {
		w.on, w.turned = append(w.on, e.On), append(w.turned, -1)
	}
	for range p.Comps {
		w.states = append(w.states, api.LifeNone)
	}
	thread, _ := code.Begin(p.Main, nil)
	w.tasks = []tellerTask{{api.Task{Kind: api.TaskMain, Func: p.Main, State: api.TaskWaits, Mark: -1}, thread}}
	return w
}

// apart is the same, but shares nothing.
func (w *teller) apart() *teller {
	c := *w
	c.heap = w.heap.Copy()
	c.globals, c.log, c.on, c.turned = slices.Clone(w.globals), slices.Clone(w.log), slices.Clone(w.on), slices.Clone(w.turned)
	c.states, c.tasks, c.marks = slices.Clone(w.states), slices.Clone(w.tasks), slices.Clone(w.marks)
	for i := range c.tasks {
		c.tasks[i].thread = c.tasks[i].thread.Copy()
	}
	return &c
}

// worker tells whether a number is a worker's.
func (w *teller) worker(n int64) bool {
	return n > 0 && n <= int64(len(w.tasks)) && w.tasks[n-1].Kind == api.TaskSpawn
}

// next tells a running task's next instruction.
func (w *teller) next(task int) (api.Instr, bool) {
	if task < 1 || task > len(w.tasks) || w.tasks[task-1].State != api.TaskRuns {
		return api.Instr{}, false
	}
	return w.tasks[task-1].thread.Next()
}

func (w *teller) waits(task int) int {
	x, is := w.next(task)
	if !is || x.Op != api.OpJoin {
		return 0
	}
	frames := w.tasks[task-1].thread.Frames()
	handle := frames[len(frames)-1].Regs[x.A]
	if !w.worker(handle) || w.tasks[handle-1].State == api.TaskOver {
		return 0
	}
	return int(handle)
}

func (w *teller) site(task int) int {
	if x, is := w.next(task); is {
		return x.Site
	}
	return -1
}

// runs tells a looper's task that runs (0: none), and the one that would begin (0: none).
func (w *teller) runs(looper int) (int, int) {
	first := 0
	for i, x := range w.tasks {
		switch {
		case x.Looper != looper:
		case x.State == api.TaskRuns:
			return i + 1, 0
		case x.State == api.TaskWaits && (x.Front || x.Due <= w.now):
			if first == 0 || x.Front || !w.tasks[first-1].Front && x.Due < w.tasks[first-1].Due {
				first = i + 1
			}
		}
	}
	return 0, first
}

// possible tells the task of a looper's step, or of a worker's (0: none is possible).
func (w *teller) possible(looper, worker int) int {
	task := worker
	if worker == 0 && looper >= 0 && looper < len(w.p.Loopers) {
		running, first := w.runs(looper)
		task = max(running, first)
	}
	if task < 1 || task > len(w.tasks) || worker != 0 && !w.worker(int64(task)) || w.tasks[task-1].State == api.TaskOver || w.waits(task) != 0 {
		return 0
	}
	return task
}

// can tells whether some step is possible.
func (w *teller) can() bool {
	if w.full {
		return false
	}
	for looper := range w.p.Loopers {
		if w.possible(looper, 0) != 0 {
			return true
		}
	}
	for i, x := range w.tasks {
		if x.Kind == api.TaskSpawn && w.possible(0, i+1) != 0 {
			return true
		}
	}
	return false
}

func (w *teller) blocked() []int {
	var l []int
	for i := range w.tasks {
		if w.waits(i+1) != 0 {
			l = append(l, i+1)
		}
	}
	return l
}

func (w *teller) ended() bool {
	return !w.full && !w.can() && len(w.blocked()) == 0 &&
		!slices.ContainsFunc(w.tasks, func(x tellerTask) bool { return x.State == api.TaskWaits })
}

// fills says that there is no room.
func (w *teller) fills(why string) api.Errno {
	w.full, w.why = true, "full: "+why
	return api.ErrFull
}

func (w *teller) skip(why string) api.Errno {
	w.why = "skip: " + why
	return api.ErrSkip
}

// do does an entry.
func (w *teller) do(kind byte, at int, n int64) api.Errno {
	if w.full {
		w.why = "full already"
		return api.ErrFull
	}
	w.why = string(kind)
	switch kind {
	case 't':
		if n < 1 || n > 1000000000000 || w.now+n > 1000000000000 {
			return w.skip("t")
		}
		w.now += n
		return api.OK
	case 'i':
		if at < 0 || at >= len(w.on) || !w.on[at] {
			return w.skip("i")
		}
		e := w.p.Events[at]
		return w.outside(api.Task{Kind: api.TaskEvent, Of: at, Func: e.Func, Looper: e.Looper, Payload: n, Mark: w.turned[at]})
	case 'l':
		return w.life(at, int(n))
	}
	task := 0
	if kind == 'r' {
		task = w.possible(at, 0)
	} else if at != 0 {
		task = w.possible(0, at)
	}
	if task == 0 {
		return w.skip(string(kind))
	}
	if w.steps == 20000 {
		return w.fills("steps")
	}
	err := w.step(task)
	if err == api.OK {
		w.steps++
	}
	return err
}

func (w *teller) life(comp, which int) api.Errno {
	behind := map[int][]int{-1: {0}, 0: {1, 3}, 1: {2}, 2: {1, 3}}
	if comp < 0 || comp >= len(w.states) || !slices.Contains(behind[w.states[comp]], which) {
		return w.skip("l")
	}
	c := w.p.Comps[comp]
	if f := c.Funcs[which]; f >= 0 {
		if err := w.outside(api.Task{Kind: api.TaskLife, Of: comp, Which: which, Func: f, Looper: c.Looper, Mark: -1}); err != api.OK {
			return err
		}
	}
	w.states[comp] = which
	return api.OK
}

// outside makes a task that comes from outside.
func (w *teller) outside(x api.Task) api.Errno {
	for i, y := range w.tasks {
		if y.Kind == x.Kind && y.Of == x.Of {
			x.Nth++
			x.Prev = i + 1
		}
	}
	thread, _ := w.code.Begin(x.Func, nil)
	return w.lay(x, thread)
}

func (w *teller) lay(x api.Task, thread *step.Thread) api.Errno {
	if len(w.tasks) == 256 {
		return w.fills("tasks")
	}
	x.State, x.Due = api.TaskWaits, w.now+x.Delay
	w.tasks = append(w.tasks, tellerTask{x, thread})
	return api.OK
}

func (w *teller) mark(kind api.MarkKind, task, other int) {
	w.marks = append(w.marks, api.Mark{Kind: kind, Task: task, Other: other})
}

func (w *teller) access(task, site int, kind api.LocKind, a int64, write bool) {
	w.marks = append(w.marks, api.Mark{Kind: api.MarkAccess, Task: task, Access: api.Access{Site: site, Loc: api.Loc{Kind: kind, A: int(a)}, Write: write}})
}

func (w *teller) step(task int) api.Errno {
	x := &w.tasks[task-1]
	if x.State == api.TaskWaits {
		w.why = "begins"
		x.State = api.TaskRuns
		w.mark(api.MarkBegin, task, 0)
		if x.Kind == api.TaskPost {
			w.access(task, x.Of, api.LocToken, int64(task), true)
		}
		return api.OK
	}
	ask, err := x.thread.Step(w.heap, task, x.Payload)
	if err != api.OK {
		return w.fills("objects")
	}
	for _, a := range ask.Accesses {
		w.marks = append(w.marks, api.Mark{Kind: api.MarkAccess, Task: task, Access: a})
	}
	trap := x.thread.Trap()
	if ask.Op != 0 {
		var n int64
		if n, trap, err = w.asked(task, ask); err != api.OK {
			return err
		}
		if trap == api.TrapNone {
			w.tasks[task-1].thread.Done(n)
		}
	}
	x = &w.tasks[task-1]
	if trap != api.TrapNone || x.thread.Over() {
		x.State, x.Trap = api.TaskOver, trap
		w.mark(api.MarkEnd, task, 0)
	}
	return api.OK
}

// asked does what an instruction asks of the machine.
func (w *teller) asked(task int, ask api.Ask) (int64, api.Trap, api.Errno) {
	switch ask.Op {
	case api.OpLoad:
		w.access(task, ask.Site, api.LocGlobal, ask.N, false)
		return w.globals[ask.N], 0, 0
	case api.OpStore:
		w.access(task, ask.Site, api.LocGlobal, ask.N, true)
		w.globals[ask.N] = ask.V
	case api.OpPost, api.OpFront, api.OpSpawn:
		return w.makes(task, ask)
	case api.OpCancel:
		if ask.V < 1 || ask.V > int64(len(w.tasks)) || w.tasks[ask.V-1].Kind != api.TaskPost {
			return 0, api.TrapNull, 0
		}
		w.access(task, ask.Site, api.LocToken, ask.V, true)
		if x := &w.tasks[ask.V-1]; x.State == api.TaskWaits {
			x.State = api.TaskCancelled
		}
	case api.OpEnable, api.OpDisable:
		w.access(task, ask.Site, api.LocFlag, ask.N, true)
		if on := ask.Op == api.OpEnable; on != w.on[ask.N] {
			w.on[ask.N] = on
			if on {
				w.turned[ask.N] = len(w.marks)
				w.mark(api.MarkEnable, task, int(ask.N))
			}
		}
	case api.OpJoin:
		if !w.worker(ask.V) {
			return 0, api.TrapNull, 0
		}
		w.mark(api.MarkJoin, task, int(ask.V))
	case api.OpLog:
		if len(w.log) == 1024 {
			return 0, 0, w.fills("log")
		}
		w.access(task, ask.Site, api.LocLog, 0, true)
		w.log = append(w.log, ask.V)
	}
	return 0, 0, 0
}

func (w *teller) makes(task int, ask api.Ask) (int64, api.Trap, api.Errno) {
	o, err := w.heap.Object(ask.V)
	if err != api.OK || o.Kind != api.ObjClosure {
		return 0, api.TrapNull, 0
	}
	thread, err := w.code.Begin(o.Of, o.Vals)
	if err != api.OK {
		return 0, api.TrapNull, 0
	}
	x := api.Task{Kind: api.TaskPost, Of: ask.Site, Func: o.Of, Looper: ask.Looper, By: task, Mark: len(w.marks)}
	kind := api.MarkPost
	switch ask.Op {
	case api.OpPost:
		x.Delay = ask.N
	case api.OpFront:
		x.Front = true
	case api.OpSpawn:
		x.Kind, x.Looper, kind = api.TaskSpawn, -1, api.MarkSpawn
	}
	for _, y := range w.tasks {
		if y.By == task {
			x.Nth++
		}
	}
	if err := w.lay(x, thread); err != api.OK {
		return 0, 0, err
	}
	w.mark(kind, task, len(w.tasks))
	return int64(len(w.tasks)), 0, 0
}
