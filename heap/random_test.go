package heap

import (
	"math/rand"
	"slices"
	"testing"

	"detent/api"
)

// list is a heap by the chapter's words alone: its objects, by their numbers.
type list []api.Object

// madeBy counts a task's objects.
func (l list) madeBy(task int) int {
	n := 0
	for _, x := range l {
		if x.By == task {
			n++
		}
	}
	return n
}

func (l list) add(x api.Object) (list, int, api.Errno) {
	if len(l) == api.MaxObjects {
		return l, 0, api.ErrFull
	}
	x.Nth = l.madeBy(x.By)
	return append(slices.Clone(l), x), len(l) + 1, api.OK
}

func (l list) make(kind api.ObjKind, of, size, site, by int) (list, int, api.Errno) {
	is := kind == api.ObjPlain || kind == api.ObjArray || kind == api.ObjCell
	if !is || size < 0 || size > api.MaxArray || kind == api.ObjCell && size != 1 {
		return l, 0, api.ErrArg
	}
	return l.add(api.Object{Kind: kind, Of: of, Vals: make([]int64, size), Site: site, By: by})
}

func (l list) set(id int64, i int, n int64) (list, api.Errno) {
	if id < 1 || id > int64(len(l)) {
		return l, api.ErrNone
	}
	x := l[id-1]
	if i < 0 || i >= len(x.Vals) || x.Kind == api.ObjClosure {
		return l, api.ErrNone
	}
	x.Vals = slices.Clone(x.Vals)
	x.Vals[i] = n
	changed := slices.Clone(l)
	changed[id-1] = x
	return changed, api.OK
}

// twin is a heap with the list that it must be like.
type twin struct {
	h *Heap
	l list
}

// hold holds all that can be seen of a twin's heap against its list.
func (w *twin) hold(t *testing.T) {
	t.Helper()
	wantObjects(t, w.h, w.l...)
	if t.Failed() {
		t.FailNow()
	}
}

// change does something to both of a twin.
func (w *twin) change(t *testing.T, r *rand.Rand) {
	t.Helper()
	switch r.Intn(5) {
	case 0:
		cells := make([]int64, r.Intn(4))
		for i := range cells {
			cells[i] = r.Int63n(9) - 1
		}
		x := api.Object{Kind: api.ObjClosure, Of: r.Intn(3), Vals: cells, Site: r.Intn(3), By: r.Intn(4)}
		l, want, none := w.l.add(x)
		got, err := w.h.Closure(x.Of, cells, x.Site, x.By)
		if w.l = l; got != want || err != none {
			t.Fatalf("Closure %+v: %d, %v, want %d, %v", x, got, err, want, none)
		}
	case 1:
		kind, of, size, site, by := api.ObjKind(r.Intn(6)), r.Intn(3), r.Intn(5)-1, r.Intn(3), r.Intn(4)
		l, want, none := w.l.make(kind, of, size, site, by)
		got, err := w.h.Make(kind, of, size, site, by)
		if w.l = l; got != want || err != none {
			t.Fatalf("Make of kind %d, size %d: %d, %v, want %d, %v", kind, size, got, err, want, none)
		}
	default:
		id, i, n := r.Int63n(int64(len(w.l))+3)-1, r.Intn(5)-1, r.Int63n(3)
		l, want := w.l.set(id, i, n)
		if got := w.h.Set(id, i, n); got != want {
			t.Fatalf("Set(%d, %d, %d): %v, want %v", id, i, n, got, want)
		}
		w.l = l
	}
}

// P8.1, P8.2, P8.3, P8.4: random heaps, and copies of them, are as the chapter's words tell, after each change.
func TestRandomHeaps(t *testing.T) {
	t.Parallel()
	r := rand.New(rand.NewSource(8))
	for range 40 {
		twins := []*twin{{h: New()}, {h: &Heap{}}, {h: New()}}
		for range 120 {
			w := twins[r.Intn(len(twins))]
			w.change(t, r)
			if r.Intn(15) == 0 {
				twins[r.Intn(len(twins))] = &twin{h: w.h.Copy(), l: w.l}
			}
			for _, a := range twins {
				a.hold(t)
				for _, b := range twins {
					if got, want := a.h.Same(b.h), slices.EqualFunc(a.l, b.l, equal); got != want {
						t.Fatalf("Same: %v, of %+v and %+v", got, a.l, b.l)
					}
				}
			}
		}
	}
}

// P8.4: no two objects have one name, up to a full heap, made by many tasks, some of it in a copy.
func TestNames(t *testing.T) {
	t.Parallel()
	r := rand.New(rand.NewSource(9))
	h := New()
	for h.Count() < api.MaxObjects {
		task := r.Intn(api.MaxTasks) - 5
		lay(t, h, api.Object{Kind: api.ObjKind(1 + r.Intn(int(api.ObjClosure))), Vals: make([]int64, 1), By: task})
		if h.Count()%100 == 0 {
			h = h.Copy()
		}
	}
	type name struct{ by, nth int }
	numbers, last := map[name]int{}, map[int]int{}
	for id, x := range h.All() {
		if other := numbers[name{x.By, x.Nth}]; other > 0 {
			t.Errorf("%d and %d have one name: %+v", other, id, x)
		}
		numbers[name{x.By, x.Nth}] = id
		if x.Nth != last[x.By] {
			t.Errorf("%d: the task %d's object %d, want %d", id, x.By, x.Nth, last[x.By])
		}
		last[x.By]++
	}
	if len(numbers) != api.MaxObjects {
		t.Errorf("%d names", len(numbers))
	}
}
