package machine

import "detent/api"

// doing is an instruction of a running task while it is done.
type doing struct {
	m    *Machine
	task int
	ask  api.Ask
	a    int64     // what the register A is behind it, if it is one that sets A
	err  api.Errno // ErrFull: there is no room for it
	trap api.Trap
}

// deeds tells what each instruction does that is the machine's.
func deeds() map[api.Op]func(d *doing) {
	return map[api.Op]func(d *doing){
		api.OpLoad:    (*doing).load,
		api.OpStore:   (*doing).store,
		api.OpPost:    (*doing).post,
		api.OpFront:   (*doing).front,
		api.OpCancel:  (*doing).cancel,
		api.OpEnable:  (*doing).enable,
		api.OpDisable: (*doing).disable,
		api.OpSpawn:   (*doing).spawn,
		api.OpJoin:    (*doing).join,
		api.OpLog:     (*doing).log,
	}
}

// do does the next instruction of a running task that is not blocked; ErrFull, if there is no room for it.
func (m *Machine) do(task int) api.Errno {
	d := &doing{m: m, task: task}
	d.instruction()
	if d.err == api.OK && (d.trap != api.TrapNone || m.tasks[task-1].thread.Over()) {
		m.end(task, d.trap)
	}
	return d.err
}

// instruction does it. A fault ends it ahead of all that it changes.
func (d *doing) instruction() {
	defer func() {
		if value := recover(); value != nil {
			d.trap = value.(api.Trap)
		}
	}()
	x := d.m.tasks[d.task-1]
	d.ask, d.err = x.thread.Step(d.m.heap, d.task, x.Payload)
	must(x.thread.Trap() == api.TrapNone, x.thread.Trap())
	for _, access := range d.ask.Accesses {
		d.m.access(d.task, access)
	}
	deed, is := d.m.deeds[d.ask.Op]
	if !is {
		return
	}
	deed(d)
	if d.err == api.OK {
		x.thread.Done(d.a)
	}
}

// must ends an instruction by a fault, if something is not so.
func must(so bool, trap api.Trap) {
	if !so {
		panic(trap)
	}
}

func (d *doing) load() {
	d.access(api.LocGlobal, d.ask.N, false)
	d.a = d.m.globals[d.ask.N]
}

func (d *doing) store() {
	d.access(api.LocGlobal, d.ask.N, true)
	d.m.globals[d.ask.N] = d.ask.V
}

func (d *doing) post() {
	d.make(api.Task{Kind: api.TaskPost, Looper: d.ask.Looper, Delay: d.ask.N}, api.MarkPost)
}

// front posts a task ahead of others: it has no delay, whatever N is.
func (d *doing) front() {
	d.make(api.Task{Kind: api.TaskPost, Looper: d.ask.Looper, Front: true}, api.MarkPost)
}

func (d *doing) spawn() {
	d.make(api.Task{Kind: api.TaskSpawn, Looper: none}, api.MarkSpawn)
}

func (d *doing) cancel() {
	x := d.m.find(d.ask.V)
	must(x != nil && x.Kind == api.TaskPost, api.TrapNull)
	d.access(api.LocToken, d.ask.V, true)
	if x.State == api.TaskWaits {
		d.m.cancel(int(d.ask.V))
	}
}

func (d *doing) enable() {
	d.access(api.LocFlag, d.ask.N, true)
	if event := int(d.ask.N); d.m.lives.Set(event, true) {
		d.m.turned[event] = len(d.m.marks)
		d.m.mark(api.Mark{Kind: api.MarkEnable, Task: d.task, Other: event})
	}
}

func (d *doing) disable() {
	d.access(api.LocFlag, d.ask.N, true)
	d.m.lives.Set(int(d.ask.N), false)
}

// join joins a worker that is over: a task that waits for one that is not over is not stepped.
func (d *doing) join() {
	must(d.m.worker(d.ask.V) != nil, api.TrapNull)
	d.m.mark(api.Mark{Kind: api.MarkJoin, Task: d.task, Other: int(d.ask.V)})
}

func (d *doing) log() {
	if len(d.m.log) == api.MaxLog {
		d.err = api.ErrFull
		return
	}
	d.access(api.LocLog, 0, true)
	d.m.log = append(d.m.log, d.ask.V)
}

// make makes a task of the closure that is asked for; the mark behind it tells of it.
func (d *doing) make(x api.Task, kind api.MarkKind) {
	closure, _ := d.m.heap.Object(d.ask.V)
	must(closure.Kind == api.ObjClosure, api.TrapNull)
	x.Of, x.Func, x.By, x.Mark = d.ask.Site, closure.Of, d.task, len(d.m.marks)
	other, err := d.m.add(x, closure.Vals)
	must(err != api.ErrArg, api.TrapNull)
	if err != api.OK {
		d.err = err
		return
	}
	d.a = int64(other)
	d.m.mark(api.Mark{Kind: kind, Task: d.task, Other: other})
}

// access marks an access of what has no more than one number.
func (d *doing) access(kind api.LocKind, which int64, write bool) {
	d.m.access(d.task, api.Access{Site: d.ask.Site, Loc: api.Loc{Kind: kind, A: int(which)}, Write: write})
}
