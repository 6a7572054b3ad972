package trace

import "detent/api"

// maxMarks is how many marks a run has at most.
const maxMarks = 3 * api.MaxSteps

// walk goes over a run's marks: it knows where each task has begun, and is over, up to there.
type walk struct {
	run    api.Run
	begins []int       // by a task's number; none: it has not begun
	ends   []int       // by a task's number; none: it is not over
	latest map[int]int // of each looper the task that began last
}

// May tells whether a run may be.
func May(r api.Run) bool {
	if len(r.Tasks) > api.MaxTasks || len(r.Marks) > maxMarks {
		return false
	}
	w := &walk{run: r, latest: map[int]int{}}
	for range len(r.Tasks) + 1 {
		w.begins, w.ends = append(w.begins, none), append(w.ends, none)
	}
	for i := range r.Marks {
		if !w.goOn(i) {
			return false
		}
	}
	for i := range r.Tasks {
		if !w.taskFits(i + 1) {
			return false
		}
	}
	return true
}

// goOn goes over the next mark, and tells whether it fits those ahead of it.
func (w *walk) goOn(i int) bool {
	x := w.run.Marks[i]
	// A task's first mark, and no other one, is its beginning.
	if !w.has(x.Task) || w.begun(x.Task) == (x.Kind == api.MarkBegin) || w.over(x.Task) {
		return false
	}
	switch x.Kind {
	case api.MarkBegin:
		w.begins[x.Task] = i
		return w.takesTurn(x.Task)
	case api.MarkEnd:
		w.ends[x.Task] = i
	case api.MarkPost:
		return w.makes(i, api.TaskPost)
	case api.MarkSpawn:
		return w.makes(i, api.TaskSpawn)
	case api.MarkJoin:
		return w.has(x.Other) && w.task(x.Other).Kind == api.TaskSpawn && w.over(x.Other)
	case api.MarkEnable:
		return x.Other >= 0
	case api.MarkAccess:
	default:
		return false
	}
	return true
}

// takesTurn lets a task begin on its looper, and tells whether the one ahead of it there is over.
func (w *walk) takesTurn(task int) bool {
	looper := w.task(task).Looper
	if looper < 0 {
		// Workers run beside one another.
		return true
	}
	ahead, is := w.latest[looper]
	w.latest[looper] = task
	return !is || w.over(ahead)
}

// makes tells whether a mark makes a task of a kind that is its own, and has not begun.
func (w *walk) makes(i int, kind api.TaskKind) bool {
	x := w.run.Marks[i]
	if x.Other <= x.Task || !w.has(x.Other) || w.begun(x.Other) {
		return false
	}
	made := w.task(x.Other)
	return made.Kind == kind && made.By == x.Task && made.Mark == i
}

// taskFits tells whether a task fits all marks, and the tasks ahead of it.
func (w *walk) taskFits(task int) bool {
	x := w.task(task)
	return x.Kind >= api.TaskMain && x.Kind <= api.TaskSpawn && (x.Looper < 0) == (x.Kind == api.TaskSpawn) &&
		w.markFits(task) && w.prevFits(task)
}

// markFits tells whether a task's Mark is one that lets it begin.
func (w *walk) markFits(task int) bool {
	x := w.task(task)
	if x.Mark < 0 {
		// Without the mark that made it a task would have no maker.
		return x.Kind != api.TaskPost && x.Kind != api.TaskSpawn
	}
	if x.Mark >= len(w.run.Marks) || w.begun(task) && x.Mark >= w.begins[task] {
		return false
	}
	by := w.run.Marks[x.Mark]
	switch x.Kind {
	case api.TaskPost:
		return by.Kind == api.MarkPost && by.Other == task
	case api.TaskSpawn:
		return by.Kind == api.MarkSpawn && by.Other == task
	case api.TaskEvent:
		return by.Kind == api.MarkEnable && by.Other == x.Of
	}
	return false
}

// prevFits tells whether a task's Prev is one that goes ahead of it.
func (w *walk) prevFits(task int) bool {
	x := w.task(task)
	if x.Prev == 0 {
		return true
	}
	if x.Kind != api.TaskLife && x.Kind != api.TaskEvent || x.Prev >= task || !w.has(x.Prev) {
		return false
	}
	y := w.task(x.Prev)
	if y.Kind != x.Kind || y.Of != x.Of || y.Looper != x.Looper {
		return false
	}
	// So long as a task has not begun, the one ahead of it may wait or run.
	return !w.begun(task) || w.over(x.Prev) && w.ends[x.Prev] < w.begins[task]
}

// has tells whether a number is a task's.
func (w *walk) has(task int) bool { return task >= 1 && task <= len(w.run.Tasks) }

func (w *walk) task(task int) api.Task { return w.run.Tasks[task-1] }

func (w *walk) begun(task int) bool { return w.begins[task] != none }

func (w *walk) over(task int) bool { return w.ends[task] != none }
