package trace_test

import (
	"fmt"
	"slices"
	"sort"
	"strings"

	"detent/api"
	"detent/machine"
)

// The chapter's words, told one by one, each of them by looking everywhere.

// where are the marks of a kind of a task (of kind 0: all of its marks).
func where(r api.Run, task int, kind api.MarkKind) []int {
	var l []int
	for i, x := range r.Marks {
		if x.Task == task && (kind == 0 || x.Kind == kind) {
			l = append(l, i)
		}
	}
	return l
}

// begins is a task's MarkBegin (-1: none).
func begins(r api.Run, task int) int {
	if l := where(r, task, api.MarkBegin); len(l) > 0 {
		return l[0]
	}
	return -1
}

// overAhead tells whether a task is over ahead of a mark.
func overAhead(r api.Run, task, mark int) bool {
	return slices.ContainsFunc(where(r, task, api.MarkEnd), func(i int) bool { return i < mark })
}

// isTask tells whether a number is a task's.
func isTask(r api.Run, task int) bool { return 0 < task && task <= len(r.Tasks) }

// broken are the clauses of 'It may be' that a run breaks.
func broken(r api.Run) []string {
	var l []string
	no := func(clause string, may bool) {
		if !may && !slices.Contains(l, clause) {
			l = append(l, clause)
		}
	}
	no("tasks at most", len(r.Tasks) <= api.MaxTasks)
	no("marks at most", len(r.Marks) <= 3*api.MaxSteps)
	for i, x := range r.Marks {
		no("a mark's task", isTask(r, x.Task))
		no("a mark's kind", x.Kind >= api.MarkBegin && x.Kind <= api.MarkEnable)
		brokenByMark(r, i, no)
	}
	for i := range r.Tasks {
		brokenByTask(r, i+1, no)
	}
	return l
}

func brokenByMark(r api.Run, i int, no func(string, bool)) {
	x := r.Marks[i]
	other := api.Task{}
	if isTask(r, x.Other) {
		other = r.Tasks[x.Other-1]
	}
	switch x.Kind {
	case api.MarkPost, api.MarkSpawn:
		kind := map[api.MarkKind]api.TaskKind{api.MarkPost: api.TaskPost, api.MarkSpawn: api.TaskSpawn}[x.Kind]
		no("greater than its maker", x.Other > x.Task)
		no("what is made is such a task", other.Kind == kind)
		no("By is its maker", other.Kind == 0 || other.By == x.Task)
		no("Mark is the one that makes it", other.Kind == 0 || other.Mark == i)
		begun := begins(r, x.Other)
		no("made ahead of its beginning", begun < 0 || begun > i)
	case api.MarkJoin:
		no("who is joined is a worker", other.Kind == api.TaskSpawn)
		no("who is joined is over", overAhead(r, x.Other, i))
	case api.MarkEnable:
		no("an event's number", x.Other >= 0)
	}
}

func brokenByTask(r api.Run, task int, no func(string, bool)) {
	x := r.Tasks[task-1]
	no("a task's kind", x.Kind >= api.TaskMain && x.Kind <= api.TaskSpawn)
	all, first, ends := where(r, task, 0), where(r, task, api.MarkBegin), where(r, task, api.MarkEnd)
	no("it begins first", len(all) == 0 || r.Marks[all[0]].Kind == api.MarkBegin)
	no("it begins once", len(first) <= 1)
	no("nothing behind its end", len(ends) == 0 || ends[0] == all[len(all)-1])
	no("workers, and loopers", (x.Kind == api.TaskSpawn) == (x.Looper < 0))
	begun := begins(r, task)
	no("Mark is ahead", x.Mark < 0 || x.Mark < len(r.Marks) && (begun < 0 || x.Mark < begun))
	by := api.Mark{}
	if x.Mark >= 0 && x.Mark < len(r.Marks) {
		by = r.Marks[x.Mark]
	}
	switch x.Kind {
	case api.TaskPost:
		no("Mark made the post", by.Kind == api.MarkPost && by.Other == task)
	case api.TaskSpawn:
		no("Mark made the worker", by.Kind == api.MarkSpawn && by.Other == task)
	case api.TaskEvent:
		no("Mark turned the event on", x.Mark < 0 || by.Kind == api.MarkEnable && by.Other == x.Of)
	default:
		no("Mark of others", x.Mark < 0)
	}
	if x.Prev != 0 {
		brokenByPrev(r, task, no)
	}
	for other := range r.Tasks {
		if y := r.Tasks[other]; other+1 != task && x.Looper >= 0 && y.Looper == x.Looper {
			if o := begins(r, other+1); begun >= 0 && o >= 0 && begun < o {
				no("a looper's tasks one by one", overAhead(r, task, o))
			}
		}
	}
}

func brokenByPrev(r api.Run, task int, no func(string, bool)) {
	x := r.Tasks[task-1]
	no("Prev of a callback, of an event", x.Kind == api.TaskLife || x.Kind == api.TaskEvent)
	no("Prev is smaller", isTask(r, x.Prev) && x.Prev < task)
	if !isTask(r, x.Prev) {
		return
	}
	y := r.Tasks[x.Prev-1]
	no("Prev is of the same kind", y.Kind == x.Kind)
	no("Prev is of the same", y.Of == x.Of)
	no("Prev is of the same looper", y.Looper == x.Looper)
	begun := begins(r, task)
	no("Prev is over ahead", begun < 0 || overAhead(r, x.Prev, begun))
}

// clauses are all that a run may break.
var clauses = []string{
	"tasks at most", "marks at most", "a mark's task", "a mark's kind", "greater than its maker", "what is made is such a task", "By is its maker",
	"Mark is the one that makes it", "made ahead of its beginning", "who is joined is a worker", "who is joined is over", "an event's number", "a task's kind",
	"it begins first", "it begins once", "nothing behind its end", "workers, and loopers", "Mark is ahead", "Mark made the post", "Mark made the worker",
	"Mark turned the event on", "Mark of others", "a looper's tasks one by one", "Prev of a callback, of an event", "Prev is smaller",
	"Prev is of the same kind", "Prev is of the same", "Prev is of the same looper", "Prev is over ahead",
}

// named is a task's name by the chapter's words.
func named(tasks []api.Task, task int) string {
	x := tasks[task-1]
	switch x.Kind {
	case api.TaskMain:
		return "m"
	case api.TaskLife:
		return fmt.Sprintf("c%d.%d", x.Of, x.Nth)
	case api.TaskEvent:
		return fmt.Sprintf("e%d.%d", x.Of, x.Nth)
	}
	return fmt.Sprintf("%s/%d", named(tasks, x.By), x.Nth)
}

// pairs are all pairs of marks of a run that conflict.
func pairs(r api.Run) []api.Pair {
	var l []api.Pair
	for b, y := range r.Marks {
		for a, x := range r.Marks[:b] {
			if x.Kind == api.MarkAccess && y.Kind == api.MarkAccess && x.Access.Loc == y.Access.Loc && x.Task != y.Task && (x.Access.Write || y.Access.Write) {
				l = append(l, api.Pair{A: a, B: b})
			}
		}
	}
	return l
}

// final is a run's end by the chapter's words.
func final(p api.Prog, m *machine.Machine) api.Final {
	var f api.Final
	tasks, h := m.Tasks(), m.Heap()
	object := func(id int64) string {
		x, err := h.Object(id)
		if err != api.OK {
			return "-"
		}
		return fmt.Sprintf("%s#%d", named(tasks, x.By), x.Nth)
	}
	word := func(t api.Type, n int64) string {
		switch t {
		case api.TypeInt:
			return fmt.Sprint(n)
		case api.TypeToken, api.TypeHand:
			if n < 1 || n > int64(len(tasks)) {
				return "-"
			}
			return named(tasks, int(n))
		}
		return object(n)
	}
	for i, n := range m.Globals() {
		f.Globals = append(f.Globals, word(p.Globals[i].Type, n))
	}
	lines := map[string]string{}
	for id, x := range h.All() {
		ahead := object(int64(id)) + "="
		if x.Kind == api.ObjClosure {
			ahead += fmt.Sprint("f", x.Of)
		}
		l := []string{ahead}
		for i, n := range x.Vals {
			l = append(l, map[api.ObjKind]func() string{
				api.ObjPlain:   func() string { return word(p.Classes[x.Of].Fields[i], n) },
				api.ObjArray:   func() string { return fmt.Sprint(n) },
				api.ObjCell:    func() string { return word(api.Type(x.Of), n) },
				api.ObjClosure: func() string { return object(n) },
			}[x.Kind]())
		}
		lines[object(int64(id))] = strings.Join(l, " ")
	}
	f.Objects = rising(lines)
	for _, n := range m.Log() {
		f.Log = append(f.Log, fmt.Sprint(n))
	}
	faults := map[string]string{}
	for i, x := range tasks {
		if x.Trap != 0 {
			faults[named(tasks, i+1)] = fmt.Sprintf("%s:%d", named(tasks, i+1), x.Trap)
		}
	}
	f.Traps = rising(faults)
	return f
}

// rising are the values of a map, by their rising keys.
func rising(lines map[string]string) []string {
	var keys, l []string
	for key := range lines {
		keys = append(keys, key)
	}
	sort.Strings(keys)
	for _, key := range keys {
		l = append(l, lines[key])
	}
	return l
}
