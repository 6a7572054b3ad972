package queue

// pile is a list that container/heap keeps as a heap. Ahead tells which of two comes first; moved is told of each item that comes to another place.
type pile[T any] struct {
	items *[]T
	ahead func(x, y T) bool
	moved func(x T, place int)
}

func (p pile[T]) Len() int { return len(*p.items) }

func (p pile[T]) Less(i, j int) bool { return p.ahead((*p.items)[i], (*p.items)[j]) }

func (p pile[T]) Swap(i, j int) {
	l := *p.items
	l[i], l[j] = l[j], l[i]
	p.moved(l[i], i)
	p.moved(l[j], j)
}

// Push lays an item at the end: container/heap moves it to its place.
func (p pile[T]) Push(x any) {
	item := x.(T)
	p.moved(item, len(*p.items))
	*p.items = append(*p.items, item)
}

// Pop takes the item at the end away: container/heap has moved there what goes.
func (p pile[T]) Pop() any {
	last := len(*p.items) - 1
	item := (*p.items)[last]
	*p.items = (*p.items)[:last]
	return item
}
