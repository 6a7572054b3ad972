package machine

import (
	"slices"

	"detent/api"
	"detent/heap"
)

// Full tells whether a machine has no room any more.
func (m *Machine) Full() bool { return m.there().full }

// Can tells whether a step of a looper or a worker is possible now.
func (m *Machine) Can() bool {
	m = m.there()
	if m.full {
		return false
	}
	var all []int
	for looper := range m.loopers {
		all = append(all, m.ofLooper(looper))
	}
	for i := range m.tasks {
		all = append(all, m.ofWorker(i+1))
	}
	select {
	case <-m.next(all...):
		return true
	default:
		return false
	}
}

// Ended tells whether no step is possible, no task waits, and none is blocked.
func (m *Machine) Ended() bool {
	if m.isNone() || m.full {
		return false
	}
	// A task that runs could be stepped, or is blocked.
	return !slices.ContainsFunc(m.tasks, func(x *task) bool {
		return x.State == api.TaskWaits || x.State == api.TaskRuns
	})
}

// Blocked tells the tasks that are blocked, rising.
func (m *Machine) Blocked() []int {
	var l []int
	for i := range m.there().tasks {
		if m.Waits(i+1) != 0 {
			l = append(l, i+1)
		}
	}
	return l
}

// Waits tells whom a task waits for, if it is blocked (0: it is not).
func (m *Machine) Waits(task int) int {
	m = m.there()
	if x, is := m.instr(task); !is || x.Op != api.OpJoin {
		return 0
	}
	// A join is the machine's: this step only tells what is asked for.
	ask, _ := m.tasks[task-1].thread.Step(m.heap, task, 0)
	if other := m.worker(ask.V); other == nil || other.State == api.TaskOver {
		return 0
	}
	return int(ask.V)
}

// Now tells the time.
func (m *Machine) Now() int64 { return m.there().now }

// Tasks tells all tasks: the i-th one's number is i + 1.
func (m *Machine) Tasks() []api.Task {
	var l []api.Task
	for _, x := range m.there().tasks {
		l = append(l, x.Task)
	}
	return l
}

// Globals tells all globals.
func (m *Machine) Globals() []int64 { return slices.Clone(m.there().globals) }

// Log tells the log.
func (m *Machine) Log() []int64 { return slices.Clone(m.there().log) }

// Heap tells a copy of the heap.
func (m *Machine) Heap() *heap.Heap { return m.there().heap.Copy() }

// Marks tells the marks from one on.
func (m *Machine) Marks(from int) []api.Mark {
	m = m.there()
	if from < 0 || from >= len(m.marks) {
		return nil
	}
	return slices.Clone(m.marks[from:])
}

// Site tells the site of a running task's next instruction (-1: it has none, or the task does not run).
func (m *Machine) Site(task int) int {
	x, is := m.there().instr(task)
	if !is {
		return -1
	}
	return x.Site
}

// there tells the machine, or, where there is none, a zero one, which looks the same.
func (m *Machine) there() *Machine {
	if m == nil {
		return &Machine{}
	}
	return m
}

// instr tells the next instruction of a task that runs.
func (m *Machine) instr(task int) (api.Instr, bool) {
	x := m.find(int64(task))
	if x == nil || x.State != api.TaskRuns {
		return api.Instr{}, false
	}
	return x.thread.Next()
}
