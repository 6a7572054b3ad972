package trace

import "detent/api"

// turn is accesses of one location by one task, between which no other task's stand.
type turn struct {
	task  int
	marks []int
}

// turns are accesses of one location, in their order.
type turns []turn

// and tells them with an access more, behind them.
func (l turns) and(task, mark int) turns {
	if len(l) == 0 || l[len(l)-1].task != task {
		l = append(l, turn{task: task})
	}
	last := &l[len(l)-1]
	last.marks = append(last.marks, mark)
	return l
}

// Conflicts tells all pairs of marks of accesses that conflict, by the second one, then the first one.
func Conflicts(r api.Run) []api.Pair {
	var pairs []api.Pair
	// By turns a task's own accesses are passed over at once, however many they are.
	all, writes := map[api.Loc]turns{}, map[api.Loc]turns{}
	for b, x := range r.Marks {
		if x.Kind != api.MarkAccess {
			continue
		}
		loc := x.Access.Loc
		against := writes[loc]
		if x.Access.Write {
			against = all[loc]
			writes[loc] = writes[loc].and(x.Task, b)
		}
		for _, y := range against {
			if y.task == x.Task {
				continue
			}
			for _, a := range y.marks {
				pairs = append(pairs, api.Pair{A: a, B: b})
			}
		}
		all[loc] = all[loc].and(x.Task, b)
	}
	return pairs
}
