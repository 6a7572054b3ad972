package queue

import (
	"math/rand"
	"slices"
	"testing"

	"detent/api"
)

// shelf is a queue by the chapter's words alone: its items in the order in which they were put.
type shelf []api.Item

// first tells where what comes first stands (below 0: there is nothing).
func (s shelf) first() int {
	best := -1
	for i, x := range s {
		switch {
		case best < 0, x.Front, !s[best].Front && x.Due < s[best].Due:
			best = i
		}
	}
	return best
}

func (s shelf) find(task int) int {
	return slices.IndexFunc(s, func(x api.Item) bool { return x.Task == task })
}

func (s shelf) without(i int) shelf {
	return slices.Delete(slices.Clone(s), i, i+1)
}

func (s shelf) due(now int64) (api.Item, bool) {
	var ready shelf
	for _, x := range s {
		if x.Front || x.Due <= now {
			ready = append(ready, x)
		}
	}
	if i := ready.first(); i >= 0 {
		return ready[i], true
	}
	return api.Item{}, false
}

func (s shelf) next() (int64, bool) {
	var least int64
	is := false
	for _, x := range s {
		if !x.Front && (!is || x.Due < least) {
			least, is = x.Due, true
		}
	}
	return least, is
}

func (s shelf) all() []api.Item {
	var l []api.Item
	for len(s) > 0 {
		i := s.first()
		l = append(l, s[i])
		s = s.without(i)
	}
	return l
}

func (s shelf) put(x api.Item) (shelf, api.Errno) {
	switch {
	case x.Task < 0 || x.Due < 0:
		return s, api.ErrArg
	case s.find(x.Task) >= 0:
		return s, api.ErrTwice
	}
	return append(slices.Clone(s), x), api.OK
}

// twin is a queue with the shelf that it must be like.
type twin struct {
	q *Queue
	s shelf
}

// hold holds all that can be seen of a twin's queue against its shelf.
func (w *twin) hold(t *testing.T) {
	t.Helper()
	if got, want := items(w.q), w.s.all(); !slices.Equal(got, want) {
		t.Fatalf("All: %+v, want %+v", got, want)
	}
	if w.q.Len() != len(w.s) {
		t.Fatalf("Len: %d, want %d", w.q.Len(), len(w.s))
	}
	for now := int64(-1); now <= 8; now++ {
		got, is := w.q.Due(now)
		if want, also := w.s.due(now); got != want || is != also {
			t.Fatalf("Due(%d): %+v, %v, want %+v, %v", now, got, is, want, also)
		}
	}
	got, is := w.q.Next()
	if want, also := w.s.next(); got != want || is != also {
		t.Fatalf("Next: %d, %v, want %d, %v", got, is, want, also)
	}
}

// change does something to both of a twin.
func (w *twin) change(t *testing.T, r *rand.Rand) {
	t.Helper()
	switch r.Intn(9) {
	case 0, 1:
		now := int64(r.Intn(10) - 1)
		got, is := w.q.Take(now)
		want, also := w.s.due(now)
		if got != want || is != also {
			t.Fatalf("Take(%d): %+v, %v, want %+v, %v", now, got, is, want, also)
		}
		if is {
			w.s = w.s.without(w.s.find(want.Task))
		}
	case 2, 3:
		task := r.Intn(26) - 1
		i := w.s.find(task)
		if got := w.q.Drop(task); got != (i >= 0) {
			t.Fatalf("Drop(%d): %v", task, got)
		}
		if i >= 0 {
			w.s = w.s.without(i)
		}
	default:
		x := api.Item{Task: r.Intn(26) - 1, Front: r.Intn(3) == 0, Due: int64(r.Intn(9) - 1)}
		got := w.q.Put(x)
		s, want := w.s.put(x)
		if w.s = s; got != want {
			t.Fatalf("Put %+v: %v, want %v", x, got, want)
		}
	}
}

// P7.1, P7.2, P7.3, P7.4: random queues, and copies of them, are as the chapter's words tell, after each change.
func TestRandomQueues(t *testing.T) {
	t.Parallel()
	r := rand.New(rand.NewSource(7))
	for range 60 {
		twins := []*twin{{q: New()}, {q: &Queue{}}, {q: New()}}
		for range 300 {
			w := twins[r.Intn(len(twins))]
			w.change(t, r)
			if r.Intn(20) == 0 {
				twins[r.Intn(len(twins))] = &twin{q: w.q.Copy(), s: w.s}
			}
			for _, a := range twins {
				a.hold(t)
				for _, b := range twins {
					if got, want := a.q.Same(b.q), slices.Equal(a.s.all(), b.s.all()); got != want {
						t.Fatalf("Same: %v, of %+v and %+v", got, a.s, b.s)
					}
				}
			}
		}
	}
}

// P7.2, P7.3: in whatever order six items are put, All, Due and Take tell what comes first.
func TestEachOrderOfPuts(t *testing.T) {
	t.Parallel()
	all := []api.Item{front(6), {Task: 5, Front: true, Due: 2}, plain(4, 1), plain(3, 1), plain(2, 0), plain(1, 2)}
	orders := 0
	var lay func(w twin, left []api.Item)
	lay = func(w twin, left []api.Item) {
		w.hold(t)
		if len(left) == 0 {
			orders++
			want := w.s.all()
			if got := taken(w.q); !slices.Equal(got, want) {
				t.Fatalf("taken: %+v, want %+v", got, want)
			}
		}
		for i, x := range left {
			s, _ := w.s.put(x)
			more := twin{q: w.q.Copy(), s: s}
			put(t, more.q, x)
			lay(more, shelf(left).without(i))
		}
	}
	lay(twin{q: New()}, all)
	if orders != 720 {
		t.Errorf("%d orders", orders)
	}
}

// P7.4: what is put is taken once, in the order of All; what was dropped never; of many items, too.
func TestMany(t *testing.T) {
	t.Parallel()
	const many = 60000
	r := rand.New(rand.NewSource(8))
	q := New()
	for _, task := range r.Perm(many) {
		put(t, q, api.Item{Task: task, Front: r.Intn(5) == 0, Due: int64(r.Intn(many / 4))})
	}
	for task := range many / 3 {
		if !q.Drop(3 * task) {
			t.Fatalf("Drop of task %d", 3*task)
		}
	}
	all, seen, nth := items(q), make([]int, many), 0
	for now := int64(0); q.Len() > 0; now++ {
		for x, is := q.Take(now); is; x, is = q.Take(now) {
			if seen[x.Task]++; x != all[nth] || !x.Front && x.Due != now {
				t.Fatalf("taken at %d: %+v, want %+v", now, x, all[nth])
			}
			nth++
		}
		if due, is := q.Next(); is && due <= now {
			t.Fatalf("Next: %d at %d", due, now)
		}
	}
	for task, times := range seen {
		if want := min(task%3, 1); times != want {
			t.Fatalf("task %d was taken %d times", task, times)
		}
	}
}
