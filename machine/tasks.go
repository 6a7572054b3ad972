package machine

import (
	"detent/api"
	"detent/queue"
	"detent/step"
)

// none is the mark of a task that no mark made, and the looper of a worker.
const none = -1

// task is a task and its thread (of one that is over, or cancelled: none).
type task struct {
	api.Task
	thread *step.Thread
}

func (x *task) copy() *task { return &task{Task: x.Task, thread: x.thread.Copy()} }

func (x *task) same(y *task) bool { return x.Task == y.Task && x.thread.Same(y.thread) }

// looper is a looper: the task that it runs (0: none), and those that wait for it.
type looper struct {
	runs  int
	queue *queue.Queue
}

func (l *looper) copy() *looper { return &looper{runs: l.runs, queue: l.queue.Copy()} }

func (l *looper) same(o *looper) bool { return l.runs == o.runs && l.queue.Same(o.queue) }

// copied tells a list of copies.
func copied[T any](l []T, apart func(x T) T) []T {
	c := make([]T, len(l))
	for i, x := range l {
		c[i] = apart(x)
	}
	return c
}

// find tells the task of a number, if there is one (else nil).
func (m *Machine) find(number int64) *task {
	if number < 1 || number > int64(len(m.tasks)) {
		return nil
	}
	return m.tasks[number-1]
}

// worker tells the worker of a number, if there is one (else nil).
func (m *Machine) worker(number int64) *task {
	if x := m.find(number); x != nil && x.Kind == api.TaskSpawn {
		return x
	}
	return nil
}

// add lays a task of a function and its cells at the end, names it, lets it wait, and tells its number: ErrArg, if the function captures another number of cells; ErrFull, if there is no room for it.
func (m *Machine) add(x api.Task, cells []int64) (int, api.Errno) {
	thread, err := m.code.Begin(x.Func, cells)
	switch {
	case err != api.OK:
		return 0, err
	case len(m.tasks) == api.MaxTasks:
		return 0, api.ErrFull
	}
	for i, y := range m.tasks {
		if !akin(x, y.Task) {
			continue
		}
		x.Nth++
		if x.By == 0 {
			x.Prev = i + 1
		}
	}
	x.State, x.Due = api.TaskWaits, m.now+x.Delay
	m.tasks = append(m.tasks, &task{Task: x, thread: thread})
	number := len(m.tasks)
	if x.Looper != none {
		m.loopers[x.Looper].queue.Put(api.Item{Task: number, Front: x.Front, Due: x.Due})
	}
	return number, api.OK
}

// akin tells whether two tasks are of one maker, or, of those that nobody of the program made, of one component, of one event.
func akin(x, y api.Task) bool {
	if x.By != 0 {
		return x.By == y.By
	}
	return x.Kind == y.Kind && x.Of == y.Of
}

// begin lets a task begin that waits, and that is first, if it is a looper's.
func (m *Machine) begin(number int) {
	x := m.tasks[number-1]
	x.State = api.TaskRuns
	if x.Looper != none {
		l := m.loopers[x.Looper]
		l.queue.Drop(number)
		l.runs = number
	}
	m.mark(api.Mark{Kind: api.MarkBegin, Task: number})
	if x.Kind == api.TaskPost {
		m.access(number, api.Access{Site: x.Of, Loc: api.Loc{Kind: api.LocToken, A: number}, Write: true})
	}
}

// cancel takes a post that waits out of its queue, for ever.
func (m *Machine) cancel(number int) {
	x := m.tasks[number-1]
	m.loopers[x.Looper].queue.Drop(number)
	x.State, x.thread = api.TaskCancelled, nil
}

// end lets a task be over.
func (m *Machine) end(number int, trap api.Trap) {
	x := m.tasks[number-1]
	x.State, x.Trap, x.thread = api.TaskOver, trap, nil
	if x.Looper != none {
		m.loopers[x.Looper].runs = 0
	}
	m.mark(api.Mark{Kind: api.MarkEnd, Task: number})
}

func (m *Machine) mark(x api.Mark) { m.marks = append(m.marks, x) }

func (m *Machine) access(number int, x api.Access) {
	m.mark(api.Mark{Kind: api.MarkAccess, Task: number, Access: x})
}
