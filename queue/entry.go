package queue

import (
	"container/heap"
	"iter"

	"detent/api"
)

// entry is an item, and how many were put ahead of it.
type entry struct {
	item api.Item
	nth  int
}

// ahead tells whether an entry comes ahead of another one.
func (x entry) ahead(y entry) bool {
	switch {
	case x.item.Front != y.item.Front:
		return x.item.Front
	case x.item.Front:
		return x.nth > y.nth
	case x.item.Due != y.item.Due:
		return x.item.Due < y.item.Due
	}
	return x.nth < y.nth
}

func (x entry) isDue(now int64) bool {
	return x.item.Front || x.item.Due <= now
}

// inOrder goes over a heap's entries in the order in which they come first, and leaves the heap as it is: behind an entry those right below it may be next, so what may be next is a small heap of its own, of places.
func inOrder(l []entry) iter.Seq[entry] {
	return func(yield func(entry) bool) {
		var places []int
		next := pile[int]{
			items: &places,
			ahead: func(i, j int) bool { return l[i].ahead(l[j]) },
			moved: func(int, int) {},
		}
		reach := func(i int) {
			if i < len(l) {
				heap.Push(next, i)
			}
		}
		for reach(0); len(places) > 0; {
			i := heap.Pop(next).(int)
			if !yield(l[i]) {
				return
			}
			reach(2*i + 1)
			reach(2*i + 2)
		}
	}
}
