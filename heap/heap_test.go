package heap

import (
	"math"
	"reflect"
	"slices"
	"testing"

	"detent/api"
)

func object(kind api.ObjKind, of int, vals []int64, site, by, nth int) api.Object {
	return api.Object{Kind: kind, Of: of, Vals: vals, Site: site, By: by, Nth: nth}
}

// equal holds two objects against each other; a nil list of values is as an empty one.
func equal(x, y api.Object) bool {
	vals := slices.Equal(x.Vals, y.Vals)
	x.Vals, y.Vals = nil, nil
	return vals && reflect.DeepEqual(x, y)
}

// laid makes a heap with objects like those told, but for names, which the heap gives.
func laid(t *testing.T, objects ...api.Object) *Heap {
	t.Helper()
	h := New()
	for _, x := range objects {
		lay(t, h, x)
	}
	return h
}

// lay makes an object like the one told in a heap, and tells its number.
func lay(t *testing.T, h *Heap, x api.Object) int {
	t.Helper()
	id, err := 0, api.OK
	if x.Kind == api.ObjClosure {
		id, err = h.Closure(x.Of, x.Vals, x.Site, x.By)
	} else {
		id, err = h.Make(x.Kind, x.Of, len(x.Vals), x.Site, x.By)
	}
	if err != api.OK || id != h.Count() {
		t.Fatalf("%+v: number %d of %d, %v", x, id, h.Count(), err)
	}
	if x.Kind != api.ObjClosure {
		for i, n := range x.Vals {
			set(t, h, int64(id), i, n)
		}
	}
	return id
}

func set(t *testing.T, h *Heap, id int64, i int, n int64) {
	t.Helper()
	if err := h.Set(id, i, n); err != api.OK {
		t.Fatalf("Set(%d, %d, %d): %v", id, i, n, err)
	}
}

// objects are a heap's, by All.
func objects(t *testing.T, h *Heap) []api.Object {
	t.Helper()
	var l []api.Object
	for id, x := range h.All() {
		if l = append(l, x); id != len(l) {
			t.Errorf("All: number %d, want %d", id, len(l))
		}
	}
	return l
}

// wantObjects holds all that can be seen of a heap against its objects.
func wantObjects(t *testing.T, h *Heap, want ...api.Object) {
	t.Helper()
	if got := objects(t, h); !slices.EqualFunc(got, want, equal) {
		t.Errorf("All: %+v, want %+v", got, want)
	}
	if h.Count() != len(want) {
		t.Errorf("Count: %d, want %d", h.Count(), len(want))
	}
	for i, x := range want {
		wantObject(t, h, int64(i+1), x)
	}
	for _, id := range []int64{0, -1, int64(len(want)) + 1} {
		wantNone(t, h, id, api.ErrNone)
	}
}

// wantObject holds an object against what it must be, by each look.
func wantObject(t *testing.T, h *Heap, id int64, want api.Object) {
	t.Helper()
	if got, err := h.Object(id); err != api.OK || !equal(got, want) {
		t.Errorf("Object(%d): %+v, %v, want %+v", id, got, err, want)
	}
	for kind := api.ObjKind(-1); kind <= api.ObjClosure+1; kind++ {
		if got := h.Is(id, kind); got != (kind == want.Kind) {
			t.Errorf("Is(%d, %d): %v", id, kind, got)
		}
	}
	if got := h.Len(id); got != len(want.Vals) {
		t.Errorf("Len(%d): %d, want %d", id, got, len(want.Vals))
	}
	for i, n := range want.Vals {
		if got, err := h.Get(id, i); got != n || err != api.OK {
			t.Errorf("Get(%d, %d): %d, %v, want %d", id, i, got, err, n)
		}
	}
	for _, i := range []int{-1, math.MinInt, len(want.Vals), len(want.Vals) + 1, math.MaxInt} {
		if got, err := h.Get(id, i); got != 0 || err != api.ErrNone {
			t.Errorf("Get(%d, %d): %d, %v, want ErrNone", id, i, got, err)
		}
	}
}

// wantNone holds that there is no object of a number, by each look.
func wantNone(t *testing.T, h *Heap, id int64, want api.Errno) {
	t.Helper()
	for kind := api.ObjKind(-1); kind <= api.ObjClosure+1; kind++ {
		if h.Is(id, kind) {
			t.Errorf("Is(%d, %d)", id, kind)
		}
	}
	if got := h.Len(id); got != 0 {
		t.Errorf("Len(%d): %d", id, got)
	}
	for _, i := range []int{0, -1, 1} {
		if got, err := h.Get(id, i); got != 0 || err != want {
			t.Errorf("Get(%d, %d): %d, %v, want %v", id, i, got, err, want)
		}
		if err := h.Set(id, i, 5); err != want {
			t.Errorf("Set(%d, %d): %v, want %v", id, i, err, want)
		}
	}
	if got, err := h.Object(id); !reflect.DeepEqual(got, api.Object{}) || err != want {
		t.Errorf("Object(%d): %+v, %v, want %v", id, got, err, want)
	}
}

// mixed are objects of each kind, made by three tasks in turn.
func mixed() []api.Object {
	return []api.Object{
		object(api.ObjPlain, 2, []int64{4, 0, -9}, 11, 7, 0),
		object(api.ObjCell, -1, []int64{6}, 12, 3, 0),
		object(api.ObjClosure, 5, []int64{2, 1}, 13, 7, 1),
		object(api.ObjArray, 0, []int64{0, math.MaxInt64, math.MinInt64, 1}, 14, 9, 0),
		object(api.ObjPlain, 2, nil, 11, 3, 1),
		object(api.ObjClosure, 5, nil, 13, 7, 2),
	}
}

// P8.1, P8.2: the chapter's examples.
func TestExamples(t *testing.T) {
	h := New()
	if id, err := h.Make(api.ObjCell, 1, 1, 0, 7); id != 1 || err != api.OK {
		t.Errorf("Make: %d, %v", id, err)
	}
	if err := h.Set(1, 0, 9); err != api.OK {
		t.Errorf("Set: %v", err)
	}
	if n, err := h.Get(1, 0); n != 9 || err != api.OK {
		t.Errorf("Get(1, 0): %d, %v", n, err)
	}
	if n, err := h.Get(1, 1); n != 0 || err != api.ErrNone {
		t.Errorf("Get(1, 1): %d, %v", n, err)
	}
	if n, err := h.Get(2, 0); n != 0 || err != api.ErrNone {
		t.Errorf("Get(2, 0): %d, %v", n, err)
	}
	if h.Is(0, api.ObjCell) {
		t.Error("Is(0, ObjCell)")
	}
}

// P8.1, P8.2: objects of each kind, made by several tasks in turn: their numbers and names.
func TestOrdinary(t *testing.T) {
	wantObjects(t, laid(t, mixed()...), mixed()...)
}

// P8.1: what Make makes holds 0, whatever its numbers are.
func TestMakeHoldsZero(t *testing.T) {
	h := New()
	var want []api.Object
	for i, c := range []struct {
		kind         api.ObjKind
		of, size, at int
		by           int
	}{
		{api.ObjPlain, 0, 0, 0, 0},
		{api.ObjPlain, 3, 1, 5, 1},
		{api.ObjPlain, 15, api.MaxFields, 511, 256},
		{api.ObjPlain, 1, api.MaxArray, 2, 4},
		{api.ObjArray, 0, 0, 1, 2},
		{api.ObjArray, 1, 1, 1, 5},
		{api.ObjArray, 0, api.MaxArray - 1, 1, 6},
		{api.ObjArray, 0, api.MaxArray, 1, 7},
		{api.ObjCell, int(api.TypeInt), 1, 0, 8},
		{api.ObjCell, -16, 1, -1, -1},
		{api.ObjCell, math.MinInt, 1, math.MaxInt, math.MinInt},
		{api.ObjPlain, math.MaxInt, 2, math.MinInt, math.MaxInt},
	} {
		id, err := h.Make(c.kind, c.of, c.size, c.at, c.by)
		if id != i+1 || err != api.OK {
			t.Errorf("Make %+v: %d, %v", c, id, err)
		}
		want = append(want, object(c.kind, c.of, make([]int64, c.size), c.at, c.by, 0))
	}
	wantObjects(t, h, want...)
}

// P8.1: closures of as many cells as may be.
func TestClosure(t *testing.T) {
	h := New()
	var want []api.Object
	for i, size := range []int{0, 1, 2, api.MaxArray, api.MaxArray + 1, api.MaxRegs - 1, api.MaxRegs} {
		cells := make([]int64, size)
		for j := range cells {
			cells[j] = int64(j*i) - 40
		}
		want = append(want, object(api.ObjClosure, i-1, slices.Clone(cells), 10*i, -i, 0))
		if id, err := h.Closure(i-1, cells, 10*i, -i); id != i+1 || err != api.OK {
			t.Errorf("Closure of %d cells: %d, %v", size, id, err)
		}
	}
	wantObjects(t, h, want...)
}

// P8.1: what a call is given that is refused.
func TestWrongMakes(t *testing.T) {
	h := laid(t, mixed()...)
	for _, c := range []struct {
		kind api.ObjKind
		size int
	}{
		{0, 1}, {-1, 1}, {api.ObjClosure + 1, 1}, {math.MaxInt, 1}, {math.MinInt, 1},
		{api.ObjClosure, 0}, {api.ObjClosure, 1}, {api.ObjClosure, api.MaxArray},
		{api.ObjPlain, -1}, {api.ObjPlain, api.MaxArray + 1}, {api.ObjPlain, math.MinInt}, {api.ObjPlain, math.MaxInt},
		{api.ObjArray, -1}, {api.ObjArray, api.MaxArray + 1}, {api.ObjArray, math.MinInt}, {api.ObjArray, math.MaxInt},
		{api.ObjCell, 0}, {api.ObjCell, 2}, {api.ObjCell, -1}, {api.ObjCell, api.MaxArray + 1}, {api.ObjCell, math.MaxInt},
		{0, -1}, {api.ObjClosure, -1},
	} {
		if id, err := h.Make(c.kind, 0, c.size, 0, 7); id != 0 || err != api.ErrArg {
			t.Errorf("Make of kind %d, size %d: %d, %v", c.kind, c.size, id, err)
		}
		var none *Heap
		if id, err := none.Make(c.kind, 0, c.size, 0, 7); id != 0 || err != api.ErrNil {
			t.Errorf("Make of kind %d, size %d, no heap: %d, %v", c.kind, c.size, id, err)
		}
	}
	for _, size := range []int{api.MaxRegs + 1, 10 * api.MaxRegs} {
		if id, err := h.Closure(0, make([]int64, size), 0, 7); id != 0 || err != api.ErrArg {
			t.Errorf("Closure of %d cells: %d, %v", size, id, err)
		}
	}
	wantObjects(t, h, mixed()...)
	// What was refused has no name, either.
	lay(t, h, object(api.ObjCell, 1, []int64{1}, 0, 7, 0))
	wantObject(t, h, 7, object(api.ObjCell, 1, []int64{1}, 0, 7, 3))
}

// P8.1: a heap has room for MaxObjects, of whatever kinds and tasks; by the errors' order, what may not be is ErrArg of a full one, too.
func TestFull(t *testing.T) {
	h := New()
	for i := range api.MaxObjects {
		id, err := 0, api.OK
		if i%2 == 0 {
			id, err = h.Make(api.ObjCell, 1, 1, 0, i%3)
		} else {
			id, err = h.Closure(1, []int64{1}, 0, i%3)
		}
		if id != i+1 || err != api.OK || h.Count() != i+1 {
			t.Fatalf("object %d: %d, %v, Count: %d", i+1, id, err, h.Count())
		}
	}
	before := h.Copy()
	for range 2 {
		if id, err := h.Make(api.ObjCell, 1, 1, 0, 0); id != 0 || err != api.ErrFull {
			t.Errorf("Make: %d, %v", id, err)
		}
		if id, err := h.Make(api.ObjArray, 0, 0, 0, 9); id != 0 || err != api.ErrFull {
			t.Errorf("Make of another task: %d, %v", id, err)
		}
		if id, err := h.Closure(1, nil, 0, 0); id != 0 || err != api.ErrFull {
			t.Errorf("Closure: %d, %v", id, err)
		}
		if id, err := h.Closure(1, make([]int64, api.MaxRegs), 0, 0); id != 0 || err != api.ErrFull {
			t.Errorf("Closure of MaxRegs cells: %d, %v", id, err)
		}
		if id, err := h.Make(api.ObjClosure, 1, 1, 0, 0); id != 0 || err != api.ErrArg {
			t.Errorf("Make of a closure: %d, %v", id, err)
		}
		if id, err := h.Make(api.ObjCell, 1, 0, 0, 0); id != 0 || err != api.ErrArg {
			t.Errorf("Make of an empty cell: %d, %v", id, err)
		}
		if id, err := h.Closure(1, make([]int64, api.MaxRegs+1), 0, 0); id != 0 || err != api.ErrArg {
			t.Errorf("Closure of too many cells: %d, %v", id, err)
		}
	}
	if h.Count() != api.MaxObjects || !h.Same(before) || len(objects(t, h)) != api.MaxObjects {
		t.Error("what was refused changed the heap")
	}
	set(t, h, api.MaxObjects-1, 0, 5)
	wantObject(t, h, api.MaxObjects-1, object(api.ObjCell, 1, []int64{5}, 0, 2, 340))
	wantObject(t, h, api.MaxObjects, object(api.ObjClosure, 1, []int64{1}, 0, 0, 341))
	wantNone(t, h, api.MaxObjects+1, api.ErrNone)
	if id, err := before.Copy().Make(api.ObjCell, 1, 1, 0, 0); id != 0 || err != api.ErrFull {
		t.Errorf("Make in a copy: %d, %v", id, err)
	}
}

// P8.2: numbers that no int of 32 bits holds, and those at the ends, are no object's.
func TestFarNumbers(t *testing.T) {
	h := laid(t, mixed()...)
	for _, id := range []int64{
		0, -1, -6, 7, 8, 1024, 1 << 31, 1 << 32, 1<<32 + 1, 1<<32 + 2, 3<<32 + 4, -1<<32 + 1, -1 << 32,
		math.MaxInt32, math.MinInt32, math.MaxInt64, math.MinInt64, math.MinInt64 + 1, math.MinInt64 + 2,
	} {
		wantNone(t, h, id, api.ErrNone)
	}
	wantObjects(t, h, mixed()...)
}

// P8.2, P8.4: what was set last is got, of each kind that may be set; nothing else is set.
func TestSet(t *testing.T) {
	h := laid(t, mixed()...)
	want := mixed()
	for round := range int64(3) {
		for id, x := range want {
			for i := range x.Vals {
				n := 1000*round + int64(10*id+i)
				if x.Kind == api.ObjClosure {
					if err := h.Set(int64(id+1), i, n); err != api.ErrNone {
						t.Errorf("Set of a closure: %v", err)
					}
				} else {
					set(t, h, int64(id+1), i, n)
					x.Vals[i] = n
				}
				wantObjects(t, h, want...)
			}
		}
	}
	for _, n := range []int64{0, -1, math.MinInt64, math.MaxInt64, 1 << 32} {
		set(t, h, 2, 0, n)
		if got, err := h.Get(2, 0); got != n || err != api.OK {
			t.Errorf("Get: %d, %v, want %d", got, err, n)
		}
	}
}

// P8.2: a value that is not there is not set, and no closure's is: nothing is changed then.
func TestWrongSets(t *testing.T) {
	h := laid(t, mixed()...)
	for id, x := range mixed() {
		for _, i := range []int{-1, math.MinInt, len(x.Vals), len(x.Vals) + 1, math.MaxInt} {
			if err := h.Set(int64(id+1), i, 77); err != api.ErrNone {
				t.Errorf("Set(%d, %d): %v", id+1, i, err)
			}
		}
	}
	for i := range 2 {
		if err := h.Set(3, i, 77); err != api.ErrNone {
			t.Errorf("Set of a closure: %v", err)
		}
	}
	wantObjects(t, h, mixed()...)
}

// P8.1, P8.2, P8.3: what is handed in or out shares nothing with what the heap has.
func TestNothingShared(t *testing.T) {
	h := laid(t, mixed()[:2]...)
	cells := []int64{2, 1, 99}[:2]
	h.Closure(5, cells, 13, 7)
	cells[0], cells[1] = 50, 51
	cells = append(cells, 52)
	want := mixed()[:3]
	wantObjects(t, h, want...)

	for id := range int64(3) {
		x, _ := h.Object(id + 1)
		y, _ := h.Object(id + 1)
		x.Vals[0]++
		_ = append(x.Vals, 60)
		x.Of, x.By = 61, 62
		if !equal(y, want[id]) {
			t.Errorf("one copy changed another: %+v", y)
		}
	}
	wantObjects(t, h, want...)
	all := h.All()
	var first []api.Object
	for _, x := range all {
		x.Vals[0] += 70
		_ = append(x.Vals, 71)
		x.Kind, x.Nth = api.ObjArray, 72
		first = append(first, x)
	}
	wantObjects(t, h, want...)
	nth := 0
	for _, x := range all {
		if !equal(x, want[nth]) || x.Vals[0] == first[nth].Vals[0] {
			t.Errorf("gone over again: %+v, want %+v", x, want[nth])
		}
		nth++
	}

	// What is set is not to be seen in what was handed out.
	x, _ := h.Object(1)
	set(t, h, 1, 0, 80)
	if x.Vals[0] != 4 || cells[0] != 50 {
		t.Error("Set changed what was handed out")
	}
	a, b := New(), New()
	a.Closure(1, cells, 0, 0)
	b.Closure(1, cells, 0, 0)
	if !slices.Equal(cells, []int64{50, 51, 52}) || !a.Same(b) {
		t.Error("Closure changed what was handed in")
	}
}

// P8.1, P8.2, P8.3: a heap that is not there has nothing, and gets nothing.
func TestNoHeap(t *testing.T) {
	var h *Heap
	for range h.All() {
		t.Error("All: an object")
	}
	for _, id := range []int64{0, -1, 1, math.MaxInt64, math.MinInt64} {
		wantNone(t, h, id, api.ErrNil)
	}
	if id, err := h.Make(api.ObjPlain, 0, 1, 0, 1); id != 0 || err != api.ErrNil {
		t.Errorf("Make: %d, %v", id, err)
	}
	for _, size := range []int{0, 1, api.MaxRegs + 1} {
		if id, err := h.Closure(0, make([]int64, size), 0, 1); id != 0 || err != api.ErrNil {
			t.Errorf("Closure of %d cells: %d, %v", size, id, err)
		}
	}
	if h.Count() != 0 || h.Copy() != nil {
		t.Error("nothing is something")
	}
}

// P8.1, P8.2, P8.3: a zero heap is one without objects, as a new one is.
func TestEmpty(t *testing.T) {
	for name, h := range map[string]*Heap{"zero": {}, "new": New(), "copied": New().Copy(), "copied zero": new(Heap).Copy()} {
		t.Run(name, func(t *testing.T) {
			wantObjects(t, h)
			wantNone(t, h, 1<<32, api.ErrNone)
			if !h.Same(New()) || !New().Same(h) || !h.Same(&Heap{}) || !(&Heap{}).Same(h) {
				t.Error("it is not as another one without objects")
			}
			if id, err := h.Make(api.ObjClosure, 0, 0, 0, 0); id != 0 || err != api.ErrArg {
				t.Errorf("Make: %d, %v", id, err)
			}
			wantObjects(t, h)
			for _, x := range mixed() {
				lay(t, h, x)
			}
			wantObjects(t, h, mixed()...)
			if !h.Same(laid(t, mixed()...)) {
				t.Error("it is not as another one")
			}
		})
	}
	first := &Heap{}
	if id, err := first.Closure(1, nil, 2, 3); id != 1 || err != api.OK {
		t.Errorf("Closure of a zero one: %d, %v", id, err)
	}
	// Two new ones are not one.
	a, b := New(), New()
	lay(t, a, mixed()[0])
	wantObjects(t, b)
}

// P8.3: All may be left at any time, and is gone through as often as one likes.
func TestAllLeft(t *testing.T) {
	h, want := laid(t, mixed()...), mixed()
	all := h.All()
	for most := range len(want) + 1 {
		nth := 0
		for id, x := range all {
			if nth == most {
				break
			}
			if nth++; id != nth || !equal(x, want[id-1]) {
				t.Errorf("%d: %+v, want %+v", id, x, want[nth-1])
			}
		}
		if nth != most {
			t.Errorf("left behind %d, not %d", nth, most)
		}
		wantObjects(t, h, want...)
	}
	pairs := 0
	for id := range all {
		nth := 0
		for inner, x := range all {
			if pairs, nth = pairs+1, nth+1; inner != nth || !equal(x, want[nth-1]) {
				t.Errorf("at %d, inside: %d, %+v", id, inner, x)
			}
		}
	}
	if pairs != len(want)*len(want) {
		t.Errorf("%d pairs", pairs)
	}
}

// P8.3: All tells the objects as they are when it begins, whatever comes while it goes over them.
func TestAllWhileChanging(t *testing.T) {
	h := laid(t, mixed()...)
	all, nth := h.All(), 0
	for id, x := range all {
		if nth++; id != nth || !equal(x, mixed()[nth-1]) {
			t.Errorf("%d: %+v, want %+v", id, x, mixed()[nth-1])
		}
		lay(t, h, object(api.ObjCell, id, []int64{8}, 0, 7, 0))
		for i := range int64(h.Count()) {
			for j := range h.Len(i + 1) {
				h.Set(i+1, j, int64(100*nth))
			}
		}
	}
	if nth != len(mixed()) || h.Count() != 2*nth {
		t.Errorf("%d gone over, %d there", nth, h.Count())
	}

	// The next time it begins anew.
	nth = 0
	for id, x := range all {
		if nth++; id != nth {
			t.Errorf("number %d, want %d", id, nth)
		}
		for i, n := range x.Vals {
			if x.Kind != api.ObjClosure && n != 600 {
				t.Errorf("value %d of %d: %d", i, id, n)
			}
		}
	}
	if nth != h.Count() {
		t.Errorf("%d gone over, %d there", nth, h.Count())
	}
}

// P8.3: what is told is of the time when it begins, not when All is called.
func TestAllBegins(t *testing.T) {
	h := New()
	all := h.All()
	for range all {
		t.Error("an object of none")
	}
	for nth, x := range mixed() {
		lay(t, h, x)
		got := 0
		for id, y := range all {
			if got++; !equal(y, mixed()[id-1]) {
				t.Errorf("%d: %+v", id, y)
			}
		}
		if got != nth+1 {
			t.Errorf("%d gone over, %d there", got, nth+1)
		}
	}
}

// P8.3, P8.4: a copy goes on apart, and so does what it is of; their names, too.
func TestCopy(t *testing.T) {
	h := laid(t, mixed()...)
	c := h.Copy()
	if !c.Same(h) || !h.Same(c) {
		t.Error("a copy is not the same")
	}
	set(t, h, 1, 1, 31)
	lay(t, h, object(api.ObjCell, 1, []int64{32}, 33, 7, 0))
	lay(t, h, object(api.ObjCell, 1, []int64{34}, 35, 7, 0))
	lay(t, h, object(api.ObjCell, 1, []int64{36}, 37, 5, 0))
	wantObjects(t, c, mixed()...)

	set(t, c, 1, 2, 41)
	set(t, c, 4, 0, 42)
	lay(t, c, object(api.ObjArray, 1, []int64{43, 44}, 45, 7, 0))
	lay(t, c, object(api.ObjClosure, 1, []int64{46}, 47, 5, 0))
	lay(t, c, object(api.ObjClosure, 1, []int64{46}, 47, 3, 0))

	want := append(mixed(), object(api.ObjCell, 1, []int64{32}, 33, 7, 3), object(api.ObjCell, 1, []int64{34}, 35, 7, 4), object(api.ObjCell, 1, []int64{36}, 37, 5, 0))
	want[0].Vals[1] = 31
	wantObjects(t, h, want...)
	want = append(mixed(), object(api.ObjArray, 1, []int64{43, 44}, 45, 7, 3), object(api.ObjClosure, 1, []int64{46}, 47, 5, 0), object(api.ObjClosure, 1, []int64{46}, 47, 3, 2))
	want[0].Vals[2], want[3].Vals[0] = 41, 42
	wantObjects(t, c, want...)
	if c.Same(h) || h.Same(c) {
		t.Error("they are the same still")
	}

	// A copy of a copy is apart from both.
	d := c.Copy()
	set(t, d, 2, 0, 51)
	wantObjects(t, c, want...)
	if z := new(Heap).Copy(); z == nil || z.Count() != 0 {
		t.Error("a copy of a zero one")
	}
}

// P8.3: what is the same, both ways.
func TestSame(t *testing.T) {
	h := laid(t, mixed()...)
	set(t, h, 2, 0, 1)
	detour := laid(t, mixed()...)
	set(t, detour, 2, 0, 7)
	detour.Make(0, 0, 0, 0, 7)
	set(t, detour, 2, 0, 1)
	turned := mixed()
	turned[0], turned[1] = turned[1], turned[0]
	for _, c := range []struct {
		name string
		a, b *Heap
		want bool
	}{
		{"itself", h, h, true},
		{"by a detour", h, detour, true},
		{"in another order", laid(t, mixed()...), laid(t, turned...), false},
		{"one less", laid(t, mixed()...), laid(t, mixed()[:5]...), false},
		{"none and some", New(), h, false},
		{"closures of no cells", laid(t, api.Object{Kind: api.ObjClosure}), laid(t, api.Object{Kind: api.ObjClosure, Vals: []int64{}}), true},
		{"two nil ones", nil, nil, true},
		{"two new ones", New(), New(), true},
		{"two zero ones", &Heap{}, &Heap{}, true},
		{"zero and new", &Heap{}, New(), true},
		{"nil and zero", nil, &Heap{}, false},
		{"nil and new", nil, New(), false},
		{"nil and some", nil, h, false},
	} {
		if got, back := c.a.Same(c.b), c.b.Same(c.a); got != c.want || back != c.want {
			t.Errorf("%s: %v, %v, want %v", c.name, got, back, c.want)
		}
	}
}

// P8.3: two heaps differ, if one object does in one thing alone.
func TestSameInEverything(t *testing.T) {
	base := object(api.ObjPlain, 3, []int64{5}, 6, 7, 0)
	changes := map[string]func(x *api.Object){
		"its kind: an array":           func(x *api.Object) { x.Kind = api.ObjArray },
		"its kind: a cell":             func(x *api.Object) { x.Kind = api.ObjCell },
		"its kind: a closure":          func(x *api.Object) { x.Kind = api.ObjClosure },
		"what it is of":                func(x *api.Object) { x.Of++ },
		"its value":                    func(x *api.Object) { x.Vals = []int64{4} },
		"its value by its high bits":   func(x *api.Object) { x.Vals = []int64{5 + 1<<32} },
		"its values: none":             func(x *api.Object) { x.Vals = nil },
		"its values: one more":         func(x *api.Object) { x.Vals = []int64{5, 0} },
		"the site that made it":        func(x *api.Object) { x.Site++ },
		"the task that made it":        func(x *api.Object) { x.By++ },
		"what it is of, below nothing": func(x *api.Object) { x.Of = -3 },
	}
	first, last := object(api.ObjCell, 1, []int64{2}, 0, 1, 0), object(api.ObjClosure, 1, []int64{2}, 0, 2, 0)
	h := laid(t, first, base, last)
	for name, change := range changes {
		other := base
		change(&other)
		for place, o := range []*Heap{laid(t, first, other, last), laid(t, other, base, last), laid(t, first, base, other)} {
			like := []*Heap{h, laid(t, base, base, last), laid(t, first, base, base)}[place]
			if like.Same(o) || o.Same(like) {
				t.Errorf("the same, but for %s, at %d", name, place)
			}
		}
	}
	if !h.Same(laid(t, first, base, last)) {
		t.Error("not the same")
	}

	// No call makes objects that differ in Nth alone.
	o := h.Copy()
	o.list[1].Nth++
	if h.Same(o) || o.Same(h) {
		t.Error("the same, but for which of its task's objects it is")
	}
}
