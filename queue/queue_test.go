package queue

import (
	"iter"
	"math"
	"reflect"
	"slices"
	"testing"

	"detent/api"
)

func plain(task int, due int64) api.Item { return api.Item{Task: task, Due: due} }

func front(task int) api.Item { return api.Item{Task: task, Front: true} }

// filled makes a queue into which items were put, one by one.
func filled(t *testing.T, items ...api.Item) *Queue {
	t.Helper()
	q := New()
	for _, x := range items {
		put(t, q, x)
	}
	return q
}

func put(t *testing.T, q *Queue, x api.Item) {
	t.Helper()
	if err := q.Put(x); err != api.OK {
		t.Fatalf("Put %+v: %v", x, err)
	}
}

func items(q *Queue) []api.Item { return slices.Collect(q.All()) }

func tasksOf(l iter.Seq[api.Item]) []int {
	var tasks []int
	for x := range l {
		tasks = append(tasks, x.Task)
	}
	return tasks
}

// wantTasks holds a queue's order against tasks, by All and Len.
func wantTasks(t *testing.T, q *Queue, want ...int) {
	t.Helper()
	if got := tasksOf(q.All()); !slices.Equal(got, want) {
		t.Errorf("All: %v, want %v", got, want)
	}
	if q.Len() != len(want) {
		t.Errorf("Len: %d, want %d", q.Len(), len(want))
	}
}

// wantDue holds Due, and Take of a copy, at a time against what must be due (a task below 0: nothing).
func wantDue(t *testing.T, q *Queue, now int64, task int) {
	t.Helper()
	x, is := q.Due(now)
	y, also := q.Copy().Take(now)
	if x != y || is != also {
		t.Errorf("at %d: Due tells %+v, %v, Take %+v, %v", now, x, is, y, also)
	}
	if is != (task >= 0) || is && x.Task != task || !is && x != (api.Item{}) {
		t.Errorf("Due(%d): %+v, %v, want task %d", now, x, is, task)
	}
}

func wantNext(t *testing.T, q *Queue, due int64, is bool) {
	t.Helper()
	if gotDue, gotIs := q.Next(); gotDue != due || gotIs != is {
		t.Errorf("Next: %d, %v, want %d, %v", gotDue, gotIs, due, is)
	}
}

// taken takes all out of a queue, at the end of time.
func taken(q *Queue) []api.Item {
	var l []api.Item
	for x, is := q.Take(math.MaxInt64); is; x, is = q.Take(math.MaxInt64) {
		l = append(l, x)
	}
	return l
}

// P7.1, P7.2, P7.3, P7.4: the chapter's example, by All, Due and Take.
func TestExample(t *testing.T) {
	q := filled(t, plain(1, 5), plain(2, 3), front(3), plain(4, 3), front(5))
	wantTasks(t, q, 5, 3, 2, 4, 1)
	want := []api.Item{front(5), front(3), plain(2, 3), plain(4, 3), plain(1, 5)}
	if got := items(q); !slices.Equal(got, want) {
		t.Errorf("All: %+v, want %+v", got, want)
	}
	for i, x := range want {
		if got, is := q.Due(5); got != x || !is {
			t.Errorf("Due: %+v, %v, want %+v", got, is, x)
		}
		if got, is := q.Take(5); got != x || !is || q.Len() != len(want)-i-1 {
			t.Errorf("Take: %+v, %v, want %+v", got, is, x)
		}
	}
	wantDue(t, q, 5, -1)
	wantTasks(t, q)
}

// P7.2, P7.3: what comes first.
func TestOrder(t *testing.T) {
	for _, c := range []struct {
		name string
		puts []api.Item
		want []int
	}{
		{"one", []api.Item{plain(0, 0)}, []int{0}},
		{"front ones: the last one first", []api.Item{front(1), front(2), front(3), front(4)}, []int{4, 3, 2, 1}},
		{"front ones, of falling tasks", []api.Item{front(9), front(7), front(8), front(0)}, []int{0, 8, 7, 9}},
		{"front ones: their Due is nothing", []api.Item{{Task: 1, Front: true, Due: 9}, {Task: 2, Front: true, Due: 1}, {Task: 3, Front: true, Due: 5}}, []int{3, 2, 1}},
		{"a front one ahead of a lesser Due", []api.Item{plain(1, 0), {Task: 2, Front: true, Due: 100}, plain(3, 0)}, []int{2, 1, 3}},
		{"of one Due: the first one first", []api.Item{plain(3, 7), plain(1, 7), plain(4, 7), plain(2, 7), plain(0, 7)}, []int{3, 1, 4, 2, 0}},
		{"the least Due", []api.Item{plain(1, 9), plain(2, 8), plain(3, 10), plain(4, 0), plain(5, 1)}, []int{4, 5, 2, 1, 3}},
		{"two of one Due, others between", []api.Item{plain(8, 4), plain(1, 2), plain(7, 4), plain(2, 2), plain(6, 4), plain(3, 6)}, []int{1, 2, 8, 7, 6, 3}},
		{"in turn", []api.Item{front(10), plain(20, 3), front(11), plain(21, 1), front(12), plain(22, 3), front(13), plain(23, 0)}, []int{13, 12, 11, 10, 23, 21, 20, 22}},
		{"the greatest", []api.Item{plain(math.MaxInt, math.MaxInt64), plain(1, math.MaxInt64-1), plain(0, math.MaxInt64)}, []int{1, math.MaxInt, 0}},
	} {
		t.Run(c.name, func(t *testing.T) {
			q := filled(t, c.puts...)
			wantTasks(t, q, c.want...)
			wantDue(t, q, math.MaxInt64, c.want[0])
			all := items(q)
			if got := taken(q); !slices.Equal(got, all) {
				t.Errorf("taken %+v, want %+v", got, all)
			}
		})
	}
}

// P7.2: what is due at a time, on the edge of it.
func TestWhenDue(t *testing.T) {
	q := filled(t, plain(1, 5), plain(2, 8))
	wantDue(t, q, 4, -1)
	wantDue(t, q, 5, 1)
	wantDue(t, q, 6, 1)
	if x, is := q.Take(4); is || x != (api.Item{}) || q.Len() != 2 {
		t.Errorf("Take(4): %+v, %v", x, is)
	}
	if x, is := q.Take(5); !is || x != plain(1, 5) {
		t.Errorf("Take(5): %+v, %v", x, is)
	}
	wantDue(t, q, 7, -1)
	wantDue(t, q, 8, 2)

	zero := filled(t, plain(3, 0))
	wantDue(t, zero, 0, 3)
	wantDue(t, zero, -1, -1)
	wantDue(t, zero, math.MinInt64, -1)

	last := filled(t, plain(4, math.MaxInt64))
	wantDue(t, last, math.MaxInt64-1, -1)
	wantDue(t, last, math.MaxInt64, 4)

	ahead := filled(t, plain(5, 3), api.Item{Task: 6, Front: true, Due: 7})
	for _, now := range []int64{math.MinInt64, -1, 0, 6, 7} {
		wantDue(t, ahead, now, 6)
	}
	ahead.Take(0)
	wantDue(t, ahead, 2, -1)
	wantDue(t, ahead, 3, 5)
}

// P7.2: a look takes nothing, however often.
func TestLooksTakeNothing(t *testing.T) {
	q := filled(t, plain(1, 5), front(2), plain(3, 1), front(4))
	for range 3 {
		wantDue(t, q, 0, 4)
		wantNext(t, q, 1, true)
		wantTasks(t, q, 4, 2, 3, 1)
	}
}

// P7.2: Next passes front ones by, and those alone.
func TestNext(t *testing.T) {
	q := New()
	wantNext(t, q, 0, false)
	put(t, q, front(1))
	put(t, q, api.Item{Task: 2, Front: true, Due: 4})
	wantNext(t, q, 0, false)
	put(t, q, plain(3, 9))
	wantNext(t, q, 9, true)
	put(t, q, plain(4, 7))
	put(t, q, front(5))
	put(t, q, plain(6, 8))
	wantNext(t, q, 7, true)
	put(t, q, plain(7, 0))
	wantNext(t, q, 0, true)
	for _, c := range []struct {
		task int
		due  int64
		is   bool
	}{{7, 7, true}, {5, 7, true}, {4, 8, true}, {3, 8, true}, {6, 0, false}, {1, 0, false}, {2, 0, false}} {
		q.Drop(c.task)
		wantNext(t, q, c.due, c.is)
	}
	wantNext(t, filled(t, plain(1, math.MaxInt64)), math.MaxInt64, true)
}

// P7.2, P7.4: of queues of each length each item is dropped: of the beginning, the middle, the end.
func TestDrop(t *testing.T) {
	var puts []api.Item
	for task := range 15 {
		// Dues that neither rise nor fall, each of them twice at least.
		puts = append(puts, api.Item{Task: 100 - task, Front: task%4 == 1, Due: int64(task * 5 % 7)})
		whole := filled(t, puts...)
		all := items(whole)
		for i, x := range all {
			q := whole.Copy()
			if !q.Drop(x.Task) || q.Drop(x.Task) {
				t.Errorf("Drop of task %d", x.Task)
			}
			want := slices.Delete(slices.Clone(all), i, i+1)
			if got := items(q); !slices.Equal(got, want) || q.Len() != len(want) {
				t.Errorf("without task %d: %+v, want %+v", x.Task, got, want)
			}
			if got := taken(q); !slices.Equal(got, want) {
				t.Errorf("without task %d, taken: %+v, want %+v", x.Task, got, want)
			}
		}
	}
	q := filled(t, puts...)
	for _, task := range []int{-1, 0, 85, 101, math.MinInt, math.MaxInt} {
		if q.Drop(task) || q.Len() != len(puts) {
			t.Errorf("Drop of task %d, that is not there", task)
		}
	}
	for _, x := range puts {
		if !q.Drop(x.Task) {
			t.Errorf("Drop of task %d", x.Task)
		}
	}
	wantTasks(t, q)
	wantDue(t, q, math.MaxInt64, -1)
	wantNext(t, q, 0, false)
}

// P7.1, P7.2, P7.4: an item that is put again stands where it is put last.
func TestAgain(t *testing.T) {
	q := filled(t, plain(1, 5), plain(2, 5), front(3), front(4))
	if err := q.Put(plain(1, 5)); err != api.ErrTwice {
		t.Errorf("Put of what is there: %v", err)
	}
	q.Drop(1)
	q.Drop(3)
	put(t, q, plain(1, 5))
	put(t, q, front(3))
	wantTasks(t, q, 3, 4, 2, 1)
	if x, _ := q.Take(0); x != front(3) {
		t.Errorf("Take: %+v", x)
	}
	put(t, q, plain(3, 0))
	wantTasks(t, q, 4, 3, 2, 1)
	if got := taken(q); len(got) != 4 {
		t.Errorf("taken: %+v", got)
	}
	for _, x := range []api.Item{plain(2, 5), front(1), plain(4, 1), plain(3, 1)} {
		put(t, q, x)
	}
	wantTasks(t, q, 1, 4, 3, 2)
}

// P7.1: what may not be put, by the errors' order; nothing is changed then.
func TestWrongPuts(t *testing.T) {
	q := filled(t, plain(1, 5), front(2), plain(0, 5))
	before, all := q.Copy(), items(q)
	for _, c := range []struct {
		x    api.Item
		want api.Errno
	}{
		{plain(-1, 0), api.ErrArg},
		{plain(math.MinInt, 0), api.ErrArg},
		{plain(7, -1), api.ErrArg},
		{plain(7, math.MinInt64), api.ErrArg},
		{plain(-1, -1), api.ErrArg},
		{front(-1), api.ErrArg},
		{api.Item{Task: 7, Front: true, Due: -1}, api.ErrArg},
		{plain(1, -1), api.ErrArg}, // of a task that is there, too
		{api.Item{Task: 2, Front: true, Due: -1}, api.ErrArg},
		{plain(1, 5), api.ErrTwice},
		{plain(1, 0), api.ErrTwice},
		{front(1), api.ErrTwice},
		{plain(2, 0), api.ErrTwice},
		{front(2), api.ErrTwice},
		{plain(0, 5), api.ErrTwice},
	} {
		if got := q.Put(c.x); got != c.want {
			t.Errorf("Put %+v: %v, want %v", c.x, got, c.want)
		}
		if !q.Same(before) || !slices.Equal(items(q), all) || q.Len() != 3 {
			t.Fatalf("Put %+v changed the queue", c.x)
		}
		var none *Queue
		if got := none.Put(c.x); got != api.ErrNil {
			t.Errorf("Put %+v, no queue: %v", c.x, got)
		}
	}
	put(t, q, plain(3, 5))
	wantTasks(t, q, 2, 1, 0, 3)
	if got := taken(q); len(got) != 4 {
		t.Errorf("taken: %+v", got)
	}
}

// P7.1, P7.2, P7.3: a queue that is not there has nothing, and gets nothing.
func TestNoQueue(t *testing.T) {
	var q *Queue
	if err := q.Put(plain(1, 0)); err != api.ErrNil {
		t.Errorf("Put: %v", err)
	}
	wantTasks(t, q)
	wantDue(t, q, math.MaxInt64, -1)
	wantNext(t, q, 0, false)
	if q.Drop(0) || q.Drop(1) || q.Copy() != nil {
		t.Error("nothing is something")
	}
	if x, is := q.Take(0); is || x != (api.Item{}) {
		t.Errorf("Take: %+v, %v", x, is)
	}
}

// P7.1, P7.2, P7.3: a zero queue is a new one; an empty one has nothing.
func TestEmpty(t *testing.T) {
	emptied := filled(t, plain(1, 3), front(2), plain(3, 0))
	emptied.Take(0)
	emptied.Drop(1)
	emptied.Take(0)
	for name, q := range map[string]*Queue{"zero": {}, "new": New(), "emptied": emptied, "copied": New().Copy(), "copied zero": new(Queue).Copy()} {
		t.Run(name, func(t *testing.T) {
			wantTasks(t, q)
			wantDue(t, q, math.MaxInt64, -1)
			wantNext(t, q, 0, false)
			if q.Drop(0) || q.Drop(1) || !q.Same(New()) || !New().Same(q) || !q.Same(&Queue{}) || !(&Queue{}).Same(q) {
				t.Error("nothing is something")
			}
			put(t, q, plain(0, 4))
			put(t, q, plain(1, 2))
			put(t, q, front(2))
			wantTasks(t, q, 2, 1, 0)
			wantNext(t, q, 2, true)
			if !q.Same(filled(t, plain(1, 2), plain(0, 4), front(2))) {
				t.Error("it is not as another one")
			}
		})
	}
	// Two new ones are not one.
	a, b := New(), New()
	put(t, a, plain(1, 0))
	wantTasks(t, b)
}

// P7.3: All may be left at any time, and is gone through as often as one likes.
func TestAllLeft(t *testing.T) {
	q := filled(t, plain(1, 5), plain(2, 3), front(3), plain(4, 3), front(5), plain(6, 0))
	all, want := q.All(), []int{5, 3, 6, 2, 4, 1}
	for most := range len(want) + 1 {
		var got []int
		for x := range all {
			if len(got) == most {
				break
			}
			got = append(got, x.Task)
		}
		if !slices.Equal(got, want[:most]) {
			t.Errorf("left behind %d: %v", most, got)
		}
		if again := tasksOf(all); !slices.Equal(again, want) {
			t.Errorf("gone through again: %v", again)
		}
	}
	var pairs int
	for x := range all {
		nth := 0
		for y := range all {
			if y.Task != want[nth] {
				t.Errorf("at %d, inside: %d, want %d", x.Task, y.Task, want[nth])
			}
			pairs, nth = pairs+1, nth+1
		}
	}
	if pairs != len(want)*len(want) {
		t.Errorf("%d pairs", pairs)
	}
	wantTasks(t, q, want...)
	for range filled(t).All() {
		t.Error("an item of none")
	}
}

// P7.3: All tells the items as they were when it was called.
func TestAllWhileChanging(t *testing.T) {
	q := filled(t, plain(1, 5), plain(2, 3), front(3), plain(4, 3))
	was := q.All()
	q.Drop(2)
	q.Take(0)
	put(t, q, front(7))
	put(t, q, plain(2, 9))
	now := q.All()
	for range 2 {
		if got := tasksOf(was); !slices.Equal(got, []int{3, 2, 4, 1}) {
			t.Errorf("as it was: %v", got)
		}
	}
	if got := tasksOf(now); !slices.Equal(got, []int{7, 4, 1, 2}) {
		t.Errorf("as it is: %v", got)
	}

	var seen []int
	for x := range q.All() {
		seen = append(seen, x.Task)
		if !q.Drop(x.Task) {
			t.Errorf("task %d was not there", x.Task)
		}
		put(t, q, front(100+x.Task))
		if len(seen) == 2 {
			q.Drop(107)
		}
	}
	if !slices.Equal(seen, []int{7, 4, 1, 2}) {
		t.Errorf("gone over while it changed: %v", seen)
	}
	wantTasks(t, q, 102, 101, 104)

	taken(q)
	none := q.All()
	put(t, q, plain(1, 1))
	if got := tasksOf(none); len(got) > 0 {
		t.Errorf("of none: %v", got)
	}
	if got := tasksOf(was); !slices.Equal(got, []int{3, 2, 4, 1}) {
		t.Errorf("as it was, at last: %v", got)
	}
}

// P7.3: a copy goes on apart, and so does what it is of.
func TestCopy(t *testing.T) {
	q := filled(t, plain(1, 5), front(2), plain(3, 5), plain(4, 1))
	c := q.Copy()
	if !c.Same(q) || !q.Same(c) {
		t.Error("a copy is not the same")
	}
	put(t, q, front(5))
	q.Drop(1)
	wantTasks(t, q, 5, 2, 4, 3)
	wantTasks(t, c, 2, 4, 1, 3)
	put(t, c, plain(5, 0)) // there it is not
	c.Take(0)
	c.Drop(3)
	put(t, c, plain(6, 5))
	wantTasks(t, c, 5, 4, 1, 6)
	wantTasks(t, q, 5, 2, 4, 3)
	if c.Same(q) || q.Same(c) {
		t.Error("they are the same still")
	}

	// What is put behind the copy comes behind what was put ahead of it, in both.
	d := c.Copy()
	put(t, c, plain(7, 5))
	put(t, d, plain(8, 5))
	put(t, c, front(8))
	put(t, d, front(7))
	wantTasks(t, c, 8, 5, 4, 1, 6, 7)
	wantTasks(t, d, 7, 5, 4, 1, 6, 8)
	if got := len(taken(c)); got != 6 || d.Len() != 6 {
		t.Errorf("%d taken, %d left in the other one", got, d.Len())
	}
	wantTasks(t, d, 7, 5, 4, 1, 6, 8)
	taken(d)
	wantTasks(t, q, 5, 2, 4, 3)

	if z := new(Queue).Copy(); z == nil || z.Len() != 0 {
		t.Error("a copy of a zero one")
	}
}

// P7.3: what is the same, both ways.
func TestSame(t *testing.T) {
	base := []api.Item{plain(1, 5), front(2), plain(3, 5), front(4)}
	q := filled(t, base...)
	detour := filled(t, front(9), plain(1, 2), front(2), plain(8, 0), front(4))
	detour.Drop(1)
	detour.Drop(9)
	put(t, detour, plain(1, 5))
	detour.Take(0)
	detour.Drop(8)
	put(t, detour, plain(3, 5))
	put(t, detour, front(4))
	for _, c := range []struct {
		name string
		a, b *Queue
		want bool
	}{
		{"itself", q, q, true},
		{"put alike", q, filled(t, base...), true},
		{"put otherwise", q, filled(t, front(2), plain(1, 5), front(4), plain(3, 5)), true},
		{"by a detour", q, detour, true},
		{"others in another order", q, filled(t, plain(3, 5), front(2), plain(1, 5), front(4)), false},
		{"front ones in another order", q, filled(t, plain(1, 5), front(4), plain(3, 5), front(2)), false},
		{"one less", q, filled(t, base[:3]...), false},
		{"one more", q, filled(t, append(slices.Clone(base), plain(5, 9))...), false},
		{"another task", q, filled(t, plain(1, 5), front(2), plain(7, 5), front(4)), false},
		{"another Due", q, filled(t, plain(1, 5), front(2), plain(3, 6), front(4)), false},
		{"another Due of a front one", q, filled(t, plain(1, 5), front(2), plain(3, 5), api.Item{Task: 4, Front: true, Due: 1}), false},
		{"a front one, and none", filled(t, plain(1, 0)), filled(t, front(1)), false},
		{"none and some", New(), q, false},
		{"two nil ones", nil, nil, true},
		{"nil and zero", nil, &Queue{}, false},
		{"nil and new", nil, New(), false},
		{"nil and some", nil, q, false},
	} {
		if got, back := c.a.Same(c.b), c.b.Same(c.a); got != c.want || back != c.want {
			t.Errorf("%s: %v, %v, want %v", c.name, got, back, c.want)
		}
	}
	wantTasks(t, q, 4, 2, 1, 3)
	wantTasks(t, detour, 4, 2, 1, 3)
}

// P7.3: what is the same goes on the same, by whatever way it was come to.
func TestSameGoesOn(t *testing.T) {
	a := filled(t, plain(1, 5), plain(2, 3), front(3))
	b := filled(t, front(3), plain(7, 1), plain(8, 2), plain(2, 3), plain(9, 3), plain(1, 5))
	for _, task := range []int{7, 8, 9} {
		b.Drop(task)
	}
	for _, x := range []api.Item{plain(4, 3), front(5), plain(6, 5), plain(0, 0)} {
		put(t, a, x)
		put(t, b, x)
		if !a.Same(b) || !reflect.DeepEqual(items(a), items(b)) {
			t.Fatalf("behind %+v: %+v, %+v", x, items(a), items(b))
		}
	}
	if x, y := taken(a), taken(b); !slices.Equal(x, y) {
		t.Errorf("%+v, %+v", x, y)
	}
}
