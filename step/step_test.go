package step_test

import (
	"fmt"
	"math"
	"reflect"
	"slices"
	"testing"

	"detent/api"
	"detent/heap"
	"detent/step"
)

// P10.3: the chapter's examples.
func TestExamples(t *testing.T) {
	x := trying(t, nil, api.Instr{Op: api.OpConst, N: 7}, api.Instr{Op: api.OpAdd})
	h := heap.New()
	steps(t, x, h)
	steps(t, x, h)
	wantFrames(t, x, api.Frame{Func: tried, At: 2, Regs: filled([]int64{14})})
	x = trying(t, nil, api.Instr{Op: api.OpConst, N: 7}, api.Instr{Op: api.OpGet})
	steps(t, x, h)
	steps(t, x, h)
	wantOver(t, x, api.TrapNull)
}

// P10.2: a thread at a function's beginning.
func TestBegin(t *testing.T) {
	p := around()
	c := coded(t, p)
	for _, b := range []struct {
		f     int
		cells []int64
		regs  []int64
	}{
		{main, nil, []int64{0, 0}},
		{main, []int64{}, []int64{0, 0}},
		{callback, nil, []int64{0, 0, 0, 0}},
		{none, nil, nil},
		{two, []int64{5, -6}, []int64{5, -6, 0}},
		{two, []int64{math.MinInt64, math.MaxInt64}, []int64{math.MinInt64, math.MaxInt64, 0}},
		{tried, []int64{1, 2, 3, 4, 5, 6}, []int64{1, 2, 3, 4, 5, 6}},
	} {
		x := begun(t, c, b.f, b.cells...)
		wantFrames(t, x, api.Frame{Func: b.f, Regs: b.regs})
		wantNext(t, x, p.Funcs[b.f].Code[0])
	}
}

// P10.2: what Begin refuses.
func TestBeginWrong(t *testing.T) {
	c := coded(t, around())
	refuse := func(c *step.Code, f int, cells []int64, want api.Errno) {
		t.Helper()
		if x, err := c.Begin(f, cells); x != nil || err != want {
			t.Errorf("Begin(%d, %v): %v, %v, want %v", f, cells, x, err, want)
		}
	}
	for _, f := range beyond(5) {
		refuse(c, f, nil, api.ErrArg)
		refuse(nil, f, nil, api.ErrNil)
	}
	for f, captures := range []int{0, 0, 0, 2, most} {
		for n := range 12 {
			if n != captures {
				refuse(c, f, make([]int64, n), api.ErrArg)
			}
			refuse(nil, f, make([]int64, n), api.ErrNil)
		}
	}
	refuse(new(step.Code), 0, nil, api.ErrArg)
}

// P10.2: a thread keeps nothing of the cells that it was given, nor of what it told.
func TestBeginCopies(t *testing.T) {
	c := coded(t, around())
	cells := []int64{5, 6}
	x := begun(t, c, two, cells...)
	y, _ := c.Begin(two, cells)
	clear(cells)
	for _, x := range []*step.Thread{x, y} {
		l := x.Frames()
		clear(l[0].Regs)
		l[0].At, l[0].Func = 1, 9
		clear(l)
		wantFrames(t, x, api.Frame{Func: two, Regs: []int64{5, 6, 0}})
	}
	h := worldHeap(t)
	z := begun(t, c, two, 5, cell)
	steps(t, z, h)
	wantFrames(t, x, api.Frame{Func: two, Regs: []int64{5, 6, 0}})
	wantFrames(t, z, api.Frame{Func: two, At: 1, Regs: []int64{5, cell, 10}})
}

// P10.2: no thread, and a zero one.
func TestNoThread(t *testing.T) {
	h := worldHeap(t)
	for _, x := range []*step.Thread{nil, {}, new(step.Thread).Copy()} {
		if !x.Over() || x.Trap() != api.TrapNone || len(x.Frames()) > 0 {
			t.Errorf("%v: over %v, %v, %v", x, x.Over(), x.Trap(), x.Frames())
		}
		if i, is := x.Next(); is || !reflect.DeepEqual(i, api.Instr{}) {
			t.Errorf("%v: next %v", x, i)
		}
		for _, h := range []*heap.Heap{nil, {}, h} {
			if ask, err := x.Step(h, 1, 1); err != api.ErrNil || !reflect.DeepEqual(ask, api.Ask{}) {
				t.Errorf("%v: Step: %v, %v", x, ask, err)
			}
		}
		if err := x.Done(1); err != api.ErrNil {
			t.Errorf("%v: Done: %v", x, err)
		}
	}
	var x *step.Thread
	if c := x.Copy(); c != nil {
		t.Errorf("Copy of nil: %v", c)
	}
	if !h.Same(worldHeap(t)) {
		t.Error("the heap is changed")
	}
}

// P10.3: no heap is told ahead of what else is wrong; whatever is next.
func TestNoHeap(t *testing.T) {
	for _, f := range forms() {
		x := trying(t, nil, instruction(f.op))
		was := x.Copy()
		if ask, err := x.Step(nil, 1, 1); err != api.ErrNil || !reflect.DeepEqual(ask, api.Ask{}) || !x.Same(was) {
			t.Errorf("%d: %v, %v", f.op, ask, err)
		}
	}
	x := trying(t, nil)
	steps(t, x, &heap.Heap{})
	wantOver(t, x, api.TrapNone)
	if ask, err := x.Step(nil, 1, 1); err != api.ErrNil || !reflect.DeepEqual(ask, api.Ask{}) {
		t.Errorf("over: %v, %v", ask, err)
	}
	if ask, err := x.Step(fullHeap(t), 1, 1); err != api.ErrNone || !reflect.DeepEqual(ask, api.Ask{}) {
		t.Errorf("over, the heap full: %v, %v", ask, err)
	}
}

// did is an instruction that stands first in the function tried: the registers ahead of it and behind it, where it goes on, and what it accesses.
type did struct {
	x       api.Instr
	regs    []int64
	want    []int64
	at      int
	loc     api.Loc
	write   bool
	changes func(h *heap.Heap)
}

// wantDid does what is told, and holds all that it changes against what it must.
func wantDid(t *testing.T, d did) {
	t.Helper()
	// An instruction stands ahead of it, so that it is neither the first one nor a site of a number that others have, too.
	p := around(api.Instr{Op: api.OpConst, A: 5, N: 99}, api.Instr{Op: api.OpNew, A: 5}, d.x, api.Instr{Op: api.OpIt})
	x := begun(t, coded(t, p), tried, filled(d.regs)...)
	h := worldHeap(t)
	steps(t, x, h)
	steps(t, x, h)
	want := h.Copy()
	if d.changes != nil {
		d.changes(want)
	}
	var access []api.Access
	if d.loc != (api.Loc{}) {
		access = []api.Access{{Site: p.Funcs[tried].Code[2].Site, Loc: d.loc, Write: d.write}}
	}
	got := steps(t, x, h)
	if !slices.Equal(got, access) {
		t.Errorf("%+v accesses %+v, want %+v", d.x, got, access)
	}
	if !h.Same(want) {
		t.Errorf("%+v: the heap is another one", d.x)
	}
	all := filled(d.want)
	all[5] = world // the object that was made ahead of it
	if d.at == 0 {
		d.at = 3
	}
	wantFrames(t, x, api.Frame{Func: tried, At: d.at, Regs: all})
	wantNext(t, x, p.Funcs[tried].Code[d.at])
}

// P10.3: what is a thread's own, and touches registers alone.
func TestStepRegisters(t *testing.T) {
	const big, small = math.MaxInt64, math.MinInt64
	for _, d := range []did{
		{x: api.Instr{Op: api.OpConst, A: 2, N: -7}, regs: []int64{1, 2, 3}, want: []int64{1, 2, -7}},
		{x: api.Instr{Op: api.OpConst, A: 0, N: big}, want: []int64{big}},
		{x: api.Instr{Op: api.OpConst, A: 4, N: small}, want: []int64{0, 0, 0, 0, small}},
		{x: api.Instr{Op: api.OpMove, A: 2, B: 1, C: 99, N: 4}, regs: []int64{1, 2, 3}, want: []int64{1, 2, 2}},
		{x: api.Instr{Op: api.OpMove, A: 1, B: 1}, regs: []int64{1, 2, 3}, want: []int64{1, 2, 3}},
		{x: api.Instr{Op: api.OpAdd, A: 0, B: 1, C: 2}, regs: []int64{1, 2, 5}, want: []int64{7, 2, 5}},
		{x: api.Instr{Op: api.OpAdd, A: 1, B: 1, C: 1}, regs: []int64{1, 2, 5}, want: []int64{1, 4, 5}},
		{x: api.Instr{Op: api.OpAdd, A: 0, B: 1, C: 2}, regs: []int64{1, big, 1}, want: []int64{small, big, 1}},
		{x: api.Instr{Op: api.OpAdd, A: 0, B: 1, C: 2}, regs: []int64{1, small, small}, want: []int64{0, small, small}},
		{x: api.Instr{Op: api.OpSub, A: 0, B: 1, C: 2}, regs: []int64{1, 2, 5}, want: []int64{-3, 2, 5}},
		{x: api.Instr{Op: api.OpSub, A: 2, B: 2, C: 1}, regs: []int64{1, 2, 5}, want: []int64{1, 2, 3}},
		{x: api.Instr{Op: api.OpSub, A: 0, B: 1, C: 2}, regs: []int64{1, small, 1}, want: []int64{big, small, 1}},
		{x: api.Instr{Op: api.OpSub, A: 0, B: 1, C: 2}, regs: []int64{1, 0, small}, want: []int64{small, 0, small}},
		{x: api.Instr{Op: api.OpMul, A: 0, B: 1, C: 2}, regs: []int64{1, -2, 5}, want: []int64{-10, -2, 5}},
		{x: api.Instr{Op: api.OpMul, A: 0, B: 1, C: 2}, regs: []int64{1, big, 2}, want: []int64{-2, big, 2}},
		{x: api.Instr{Op: api.OpMul, A: 0, B: 1, C: 2}, regs: []int64{1, small, -1}, want: []int64{small, small, -1}},
		{x: api.Instr{Op: api.OpMul, A: 0, B: 1, C: 2}, regs: []int64{1, 1 << 32, 1 << 33}, want: []int64{0, 1 << 32, 1 << 33}},
		{x: api.Instr{Op: api.OpLess, A: 0, B: 1, C: 2}, regs: []int64{9, 2, 5}, want: []int64{1, 2, 5}},
		{x: api.Instr{Op: api.OpLess, A: 0, B: 2, C: 1}, regs: []int64{9, 2, 5}, want: []int64{0, 2, 5}},
		{x: api.Instr{Op: api.OpLess, A: 0, B: 1, C: 2}, regs: []int64{9, 5, 5}, want: []int64{0, 5, 5}},
		{x: api.Instr{Op: api.OpLess, A: 0, B: 1, C: 2}, regs: []int64{9, small, big}, want: []int64{1, small, big}},
		{x: api.Instr{Op: api.OpLess, A: 0, B: 1, C: 2}, regs: []int64{9, -1, 0}, want: []int64{1, -1, 0}},
		{x: api.Instr{Op: api.OpSame, A: 0, B: 1, C: 2}, regs: []int64{9, 5, 5}, want: []int64{1, 5, 5}},
		{x: api.Instr{Op: api.OpSame, A: 0, B: 1, C: 2}, regs: []int64{9, 5, 5 + 1<<32}, want: []int64{0, 5, 5 + 1<<32}},
		{x: api.Instr{Op: api.OpSame, A: 0, B: 1, C: 2}, regs: []int64{9, small, big}, want: []int64{0, small, big}},
		{x: api.Instr{Op: api.OpSame, A: 0, B: 1, C: 1}, regs: []int64{9, small}, want: []int64{1, small}},
		{x: api.Instr{Op: api.OpIt, A: 1, N: 3}, regs: []int64{9, 9}, want: []int64{9, 8}},
		{x: api.Instr{Op: api.OpLen, A: 0, B: 1, C: -7}, regs: []int64{9, array}, want: []int64{4, array}},
		{x: api.Instr{Op: api.OpLen, A: 1, B: 1}, regs: []int64{9, empty}, want: []int64{9, 0}},
	} {
		wantDid(t, d)
	}
}

// P10.3: where a frame goes on.
func TestStepJumps(t *testing.T) {
	for _, d := range []did{
		{x: api.Instr{Op: api.OpJump, N: 4}, regs: []int64{1}, want: []int64{1}, at: 4},
		{x: api.Instr{Op: api.OpJump, N: 2}, regs: []int64{1}, want: []int64{1}, at: 2},
		{x: api.Instr{Op: api.OpJump, N: 1}, at: 1},
		{x: api.Instr{Op: api.OpZero, A: 1, N: 4}, regs: []int64{1, 0}, want: []int64{1, 0}, at: 4},
		{x: api.Instr{Op: api.OpZero, A: 1, N: 1}, regs: []int64{1, 0}, want: []int64{1, 0}, at: 1},
		{x: api.Instr{Op: api.OpZero, A: 0, N: 4}, regs: []int64{1, 0}, want: []int64{1, 0}, at: 3},
		{x: api.Instr{Op: api.OpZero, A: 0, N: 1}, regs: []int64{-1, 0}, want: []int64{-1, 0}, at: 3},
		{x: api.Instr{Op: api.OpZero, A: 0, N: 1}, regs: []int64{1 << 32, 0}, want: []int64{1 << 32, 0}, at: 3},
		{x: api.Instr{Op: api.OpZero, A: 0, N: 1}, regs: []int64{math.MinInt64, 0}, want: []int64{math.MinInt64, 0}, at: 3},
	} {
		wantDid(t, d)
	}
	x := trying(t, nil, api.Instr{Op: api.OpJump, N: 0})
	for range 10 {
		steps(t, x, heap.New())
		wantFrames(t, x, api.Frame{Func: tried, Regs: filled(nil)})
	}
}

// P10.3: what is read of an object, and what is written.
func TestStepAccesses(t *testing.T) {
	sets := func(id int64, i int, n int64) func(h *heap.Heap) {
		return func(h *heap.Heap) { h.Set(id, i, n) }
	}
	for _, d := range []did{
		{x: api.Instr{Op: api.OpGet, A: 0, B: 1}, regs: []int64{9, cell}, want: []int64{10, cell}, loc: api.Loc{Kind: api.LocCell, A: cell}},
		{x: api.Instr{Op: api.OpGet, A: 1, B: 1, N: 5}, regs: []int64{9, cell}, want: []int64{9, 10}, loc: api.Loc{Kind: api.LocCell, A: cell}},
		{x: api.Instr{Op: api.OpPut, A: 1, B: 0}, regs: []int64{9, cell}, want: []int64{9, cell}, loc: api.Loc{Kind: api.LocCell, A: cell}, write: true, changes: sets(cell, 0, 9)},
		{x: api.Instr{Op: api.OpPut, A: 1, B: 1}, regs: []int64{9, cell}, want: []int64{9, cell}, loc: api.Loc{Kind: api.LocCell, A: cell}, write: true, changes: sets(cell, 0, cell)},
		{x: api.Instr{Op: api.OpPut, A: 0, B: 1}, regs: []int64{cell, math.MinInt64}, want: []int64{cell, math.MinInt64}, loc: api.Loc{Kind: api.LocCell, A: cell}, write: true, changes: sets(cell, 0, math.MinInt64)},
		{x: api.Instr{Op: api.OpPut, A: 0, B: 1}, regs: []int64{cell, 10}, want: []int64{cell, 10}, loc: api.Loc{Kind: api.LocCell, A: cell}, write: true},
		{x: api.Instr{Op: api.OpField, A: 0, B: 1, N: 0}, regs: []int64{9, plain}, want: []int64{20, plain}, loc: api.Loc{Kind: api.LocField, A: plain}},
		{x: api.Instr{Op: api.OpField, A: 0, B: 1, C: 7, N: 1}, regs: []int64{9, plain}, want: []int64{-21, plain}, loc: api.Loc{Kind: api.LocField, A: plain, B: 1}},
		{x: api.Instr{Op: api.OpField, A: 1, B: 1, N: 2}, regs: []int64{9, plain}, want: []int64{9, math.MinInt64}, loc: api.Loc{Kind: api.LocField, A: plain, B: 2}},
		{x: api.Instr{Op: api.OpSetField, A: 1, B: 0, N: 0}, regs: []int64{9, plain}, want: []int64{9, plain}, loc: api.Loc{Kind: api.LocField, A: plain}, write: true, changes: sets(plain, 0, 9)},
		{x: api.Instr{Op: api.OpSetField, A: 0, B: 1, N: 2}, regs: []int64{plain, math.MaxInt64}, want: []int64{plain, math.MaxInt64}, loc: api.Loc{Kind: api.LocField, A: plain, B: 2}, write: true, changes: sets(plain, 2, math.MaxInt64)},
		{x: api.Instr{Op: api.OpElem, A: 0, B: 1, C: 2}, regs: []int64{9, array, 0}, want: []int64{30, array, 0}, loc: api.Loc{Kind: api.LocElem, A: array}},
		{x: api.Instr{Op: api.OpElem, A: 2, B: 1, C: 2, N: 1}, regs: []int64{9, array, 3}, want: []int64{9, array, -33}, loc: api.Loc{Kind: api.LocElem, A: array, B: 3}},
		{x: api.Instr{Op: api.OpElem, A: 1, B: 1, C: 1}, regs: []int64{9, array}, want: []int64{9, -33}, loc: api.Loc{Kind: api.LocElem, A: array, B: array}},
		{x: api.Instr{Op: api.OpSetElem, A: 0, B: 1, C: 2}, regs: []int64{array, 1, 77}, want: []int64{array, 1, 77}, loc: api.Loc{Kind: api.LocElem, A: array, B: 1}, write: true, changes: sets(array, 1, 77)},
		{x: api.Instr{Op: api.OpSetElem, A: 2, B: 0, C: 1}, regs: []int64{0, -5, array}, want: []int64{0, -5, array}, loc: api.Loc{Kind: api.LocElem, A: array}, write: true, changes: sets(array, 0, -5)},
	} {
		wantDid(t, d)
	}
}

// P10.3: what is made: by the task, at the site, all 0 but a closure's cells.
func TestStepMakes(t *testing.T) {
	const id = world + 1 // one was made ahead of it
	makes := func(kind api.ObjKind, of, size int) func(h *heap.Heap) {
		return func(h *heap.Heap) { h.Make(kind, of, size, 9, 3) }
	}
	closes := func(of int, cells ...int64) func(h *heap.Heap) {
		return func(h *heap.Heap) { h.Closure(of, cells, 9, 3) }
	}
	for _, d := range []did{
		{x: api.Instr{Op: api.OpCell, A: 1, N: int64(api.TypeInt)}, regs: []int64{9, 9}, want: []int64{9, id}, changes: makes(api.ObjCell, int(api.TypeInt), 1)},
		{x: api.Instr{Op: api.OpCell, A: 0, N: -3}, want: []int64{id}, changes: makes(api.ObjCell, -3, 1)},
		{x: api.Instr{Op: api.OpNew, A: 0, N: 0}, want: []int64{id}, changes: makes(api.ObjPlain, 0, 3)},
		{x: api.Instr{Op: api.OpNew, A: 4, N: 1}, want: []int64{0, 0, 0, 0, id}, changes: makes(api.ObjPlain, 1, 1)},
		{x: api.Instr{Op: api.OpNew, A: 0, N: 2}, want: []int64{id}, changes: makes(api.ObjPlain, 2, 0)},
		{x: api.Instr{Op: api.OpArray, A: 0, B: 1, C: 4, N: 6}, regs: []int64{9, 5}, want: []int64{id, 5}, changes: makes(api.ObjArray, 0, 5)},
		{x: api.Instr{Op: api.OpArray, A: 1, B: 1}, regs: []int64{9, 0}, want: []int64{9, id}, changes: makes(api.ObjArray, 0, 0)},
		{x: api.Instr{Op: api.OpArray, A: 0, B: 1}, regs: []int64{9, api.MaxArray}, want: []int64{id, api.MaxArray}, changes: makes(api.ObjArray, 0, api.MaxArray)},
		{x: api.Instr{Op: api.OpClosure, A: 0, N: none}, want: []int64{id}, changes: closes(none)},
		{x: api.Instr{Op: api.OpClosure, A: 0, N: two, L: []int{2, 1}}, regs: []int64{9, -1, cell}, want: []int64{id, -1, cell}, changes: closes(two, cell, -1)},
		{x: api.Instr{Op: api.OpClosure, A: 1, N: two, L: []int{1, 1}}, regs: []int64{9, 4}, want: []int64{9, id}, changes: closes(two, 4, 4)},
		{x: api.Instr{Op: api.OpClosure, A: 0, N: tried, L: []int{0, 1, 2, 3, 4, 0}}, regs: []int64{1, 2, 3, 4, 5}, want: []int64{id, 2, 3, 4, 5}, changes: closes(tried, 1, 2, 3, 4, 5, 1)},
	} {
		wantDid(t, d)
	}
}

// P10.3: what is made is made by the task, and 'it' is what it is, in each step that is told so.
func TestStepTaskAndIt(t *testing.T) {
	x := trying(t, nil, api.Instr{Op: api.OpIt}, api.Instr{Op: api.OpCell, N: 1}, api.Instr{Op: api.OpJump})
	h := heap.New()
	for i, task := range []int{5, 0, -4, math.MaxInt, 5} {
		it := []int64{math.MinInt64, 0, 7, math.MaxInt64, -1}[i]
		if _, err := x.Step(h, 99, it); err != api.OK || last(t, x).Regs[0] != it {
			t.Fatalf("OpIt of %d: %d, %v", it, last(t, x).Regs[0], err)
		}
		if _, err := x.Step(h, task, 99); err != api.OK || last(t, x).Regs[0] != int64(1+i) {
			t.Fatalf("OpCell: %d, %v", last(t, x).Regs[0], err)
		}
		if o, err := h.Object(int64(1 + i)); err != api.OK || o.By != task || o.Nth != i/4 || o.Site != 8 {
			t.Errorf("the object of the task %d: %+v, %v", task, o, err)
		}
		steps(t, x, h)
	}
}

// trapped is an instruction, what registers are ahead of it, and the fault.
type trapped struct {
	x    api.Instr
	regs []int64
	trap api.Trap
}

// wantTrap holds that an instruction ends a thread by a trap, and does nothing else.
func wantTrap(t *testing.T, d trapped) {
	t.Helper()
	wantTrapOf(t, d, worldHeap(t))
}

func wantTrapOf(t *testing.T, d trapped, h *heap.Heap) {
	t.Helper()
	x, was := trying(t, d.regs, api.Instr{Op: api.OpJump, N: 1}, d.x), h.Copy()
	steps(t, x, h)
	frames := x.Frames()
	if got := steps(t, x, h); len(got) > 0 {
		t.Errorf("%+v of %v accesses %+v", d.x, d.regs, got)
	}
	wantOver(t, x, d.trap)
	wantFrames(t, x, frames...)
	if !h.Same(was) {
		t.Errorf("%+v of %v changes the heap", d.x, d.regs)
	}
	if t.Failed() {
		t.Fatalf("%+v of %v", d.x, d.regs)
	}
}

// P10.3: an object of another kind, or none.
func TestTrapNull(t *testing.T) {
	kinds := map[int64]api.ObjKind{cell: api.ObjCell, plain: api.ObjPlain, array: api.ObjArray, closure: api.ObjClosure, empty: api.ObjArray, fieldless: api.ObjPlain, other: api.ObjClosure}
	for op, needs := range map[api.Op]struct {
		kind api.ObjKind
		a    int
		b    int
		c    int
	}{
		api.OpGet: {api.ObjCell, 0, 1, 0}, api.OpPut: {api.ObjCell, 1, 0, 0}, api.OpField: {api.ObjPlain, 0, 1, 0}, api.OpSetField: {api.ObjPlain, 1, 0, 0},
		api.OpElem: {api.ObjArray, 0, 1, 0}, api.OpSetElem: {api.ObjArray, 1, 0, 0}, api.OpLen: {api.ObjArray, 0, 1, 0}, api.OpCall: {api.ObjClosure, 1, 0, 0},
	} {
		for _, id := range noObjects() {
			wantTrap(t, trapped{api.Instr{Op: op, A: needs.a, B: needs.b, C: needs.c}, []int64{0, id}, api.TrapNull})
		}
		for id, kind := range kinds {
			if kind != needs.kind {
				wantTrap(t, trapped{api.Instr{Op: op, A: needs.a, B: needs.b, C: needs.c}, []int64{0, id}, api.TrapNull})
			}
		}
	}
}

// P10.3: a field that there is not; the object tells, not a class.
func TestTrapFields(t *testing.T) {
	for _, n := range []int64{-1, 3, 4, api.MaxFields, 1 << 32, 1<<32 + 1, -1 << 32, math.MaxInt64, math.MinInt64} {
		wantTrap(t, trapped{api.Instr{Op: api.OpField, A: 0, B: 1, N: n}, []int64{0, plain}, api.TrapNull})
		wantTrap(t, trapped{api.Instr{Op: api.OpSetField, A: 1, B: 0, N: n}, []int64{0, plain}, api.TrapNull})
	}
	wantTrap(t, trapped{api.Instr{Op: api.OpField, A: 0, B: 1}, []int64{0, fieldless}, api.TrapNull})
	wantTrap(t, trapped{api.Instr{Op: api.OpSetField, A: 1, B: 0}, []int64{0, fieldless}, api.TrapNull})
}

// P10.3: an element that there is not; of what is no array the array is told.
func TestTrapIndex(t *testing.T) {
	for _, n := range []int64{-1, 4, 5, api.MaxArray, 1 << 32, 1<<32 + 1, -1 << 32, math.MaxInt64, math.MinInt64} {
		wantTrap(t, trapped{api.Instr{Op: api.OpElem, A: 0, B: 1, C: 2}, []int64{0, array, n}, api.TrapIndex})
		wantTrap(t, trapped{api.Instr{Op: api.OpSetElem, A: 1, B: 2, C: 0}, []int64{0, array, n}, api.TrapIndex})
		wantTrap(t, trapped{api.Instr{Op: api.OpElem, A: 0, B: 1, C: 2}, []int64{0, plain, n}, api.TrapNull})
		wantTrap(t, trapped{api.Instr{Op: api.OpSetElem, A: 1, B: 2, C: 0}, []int64{0, 0, n}, api.TrapNull})
	}
	for _, n := range []int64{-1, 0, 1} {
		wantTrap(t, trapped{api.Instr{Op: api.OpElem, A: 0, B: 1, C: 2}, []int64{0, empty, n}, api.TrapIndex})
		wantTrap(t, trapped{api.Instr{Op: api.OpSetElem, A: 1, B: 2, C: 0}, []int64{0, empty, n}, api.TrapIndex})
	}
}

// P10.3: an array's size; it is told of a heap that is full, too: nothing would be made.
func TestTrapSize(t *testing.T) {
	for _, n := range []int64{-1, -2, api.MaxArray + 1, 1000, 1 << 32, 1<<32 + 1, -1 << 32, math.MaxInt64, math.MinInt64} {
		d := trapped{api.Instr{Op: api.OpArray, A: 0, B: 1}, []int64{9, n}, api.TrapSize}
		wantTrap(t, d)
		wantTrapOf(t, d, fullHeap(t))
	}
}

// P10.3: a heap that is full: nothing happens, and with room it goes on as it would have.
func TestFull(t *testing.T) {
	for _, op := range []api.Op{api.OpCell, api.OpNew, api.OpArray, api.OpClosure} {
		x := trying(t, []int64{1, 2, 3}, instruction(op))
		h, was := fullHeap(t), x.Copy()
		for range 3 {
			if ask, err := x.Step(h, 1, 1); err != api.ErrFull || !reflect.DeepEqual(ask, api.Ask{}) {
				t.Errorf("%d: %+v, %v", op, ask, err)
			}
			if !x.Same(was) || x.Over() || !h.Same(fullHeap(t)) {
				t.Errorf("%d: something happened", op)
			}
		}
		steps(t, x, heap.New())
		wantFrames(t, x, api.Frame{Func: tried, At: 1, Regs: filled([]int64{1, 2, 3})})
	}
}

// P10.3: all else is done, whether the heap is full or not; and where there is room for just one more, that one is made.
func TestNearlyFull(t *testing.T) {
	h := fullHeap(t)
	for _, i := range []api.Instr{
		{Op: api.OpGet, A: 5}, {Op: api.OpPut, B: 5}, {Op: api.OpField, A: 5, B: 1}, {Op: api.OpSetField, A: 1, B: 5}, {Op: api.OpElem, A: 5, B: 2, C: 3}, {Op: api.OpSetElem, A: 2, B: 3, C: 5},
		{Op: api.OpLen, A: 5, B: 2}, {Op: api.OpCall, A: 4}, {Op: api.OpConst}, {Op: api.OpMove}, {Op: api.OpAdd}, {Op: api.OpSame}, {Op: api.OpIt}, {Op: api.OpJump}, {Op: api.OpZero}, {Op: api.OpRet},
	} {
		x := trying(t, []int64{cell, plain, array, 0, closure}, i)
		steps(t, x, h)
		if x.Trap() != api.TrapNone {
			t.Errorf("%d: %v", i.Op, x.Trap())
		}
	}
	h = heap.New()
	for h.Count() < api.MaxObjects-1 {
		h.Make(api.ObjCell, 1, 1, 0, 9)
	}
	x := trying(t, nil, api.Instr{Op: api.OpNew, A: 1}, api.Instr{Op: api.OpNew})
	steps(t, x, h)
	wantFrames(t, x, api.Frame{Func: tried, At: 1, Regs: filled([]int64{0, api.MaxObjects})})
	if _, err := x.Step(h, 1, 1); err != api.ErrFull {
		t.Errorf("one more: %v", err)
	}
}

// P10.3: a thread that has just ended, and one that has a frame left.
func TestReturns(t *testing.T) {
	c := coded(t, around(api.Instr{Op: api.OpCall, A: 1}, api.Instr{Op: api.OpConst, A: 2, N: 6}))
	x := begun(t, c, none)
	if err := x.Done(0); err != api.OK {
		t.Fatal(err)
	}
	steps(t, x, heap.New())
	wantOver(t, x, api.TrapNone)
	wantFrames(t, x)
	x = begun(t, c, tried, 0, other, 0, 0, 0, 0)
	h := worldHeap(t)
	outer := api.Frame{Func: tried, At: 1, Regs: []int64{0, other, 0, 0, 0, 0}}
	steps(t, x, h)
	wantFrames(t, x, outer, api.Frame{Func: none})
	if err := x.Done(0); err != api.OK {
		t.Fatal(err)
	}
	wantFrames(t, x, outer, api.Frame{Func: none, At: 1})
	steps(t, x, h)
	wantFrames(t, x, outer)
	steps(t, x, h)
	outer.At, outer.Regs[2] = 2, 6
	wantFrames(t, x, outer)
	steps(t, x, h)
	wantOver(t, x, api.TrapNone)
	wantFrames(t, x)
}

// P10.3: a call within a call; the cells that were captured are its first registers; what it does to cells is there behind it.
func TestCalls(t *testing.T) {
	p := around(
		api.Instr{Op: api.OpCell, N: 1},
		api.Instr{Op: api.OpPut, B: 1},
		api.Instr{Op: api.OpClosure, A: 2, N: 5, L: []int{0, 3}},
		api.Instr{Op: api.OpCall, A: 2},
		api.Instr{Op: api.OpGet, A: 4, B: 0},
	)
	p.Funcs = append(p.Funcs,
		api.Func{Captures: 2, Regs: 4, Code: []api.Instr{
			{Op: api.OpClosure, A: 3, N: 6, L: []int{0}}, {Op: api.OpCall, A: 3}, {Op: api.OpGet, A: 2}, {Op: api.OpAdd, A: 2, B: 2, C: 1}, {Op: api.OpPut, B: 2}, {Op: api.OpRet},
		}},
		api.Func{Captures: 1, Regs: 2, Code: []api.Instr{{Op: api.OpGet, A: 1}, {Op: api.OpMul, A: 1, B: 1, C: 1}, {Op: api.OpPut, B: 1}, {Op: api.OpRet}}},
	)
	x := begun(t, coded(t, numbered(p)), tried, 0, 7, 0, 1000, 0, 0)
	h := heap.New()
	for range 4 {
		steps(t, x, h)
	}
	wantFrames(t, x, api.Frame{Func: tried, At: 4, Regs: []int64{1, 7, 2, 1000, 0, 0}}, api.Frame{Func: 5, Regs: []int64{1, 1000, 0, 0}})
	steps(t, x, h)
	steps(t, x, h)
	wantFrames(t, x, api.Frame{Func: tried, At: 4, Regs: []int64{1, 7, 2, 1000, 0, 0}}, api.Frame{Func: 5, At: 2, Regs: []int64{1, 1000, 0, 3}}, api.Frame{Func: 6, Regs: []int64{1, 0}})
	for range 3 {
		steps(t, x, h)
	}
	wantFrames(t, x, api.Frame{Func: tried, At: 4, Regs: []int64{1, 7, 2, 1000, 0, 0}}, api.Frame{Func: 5, At: 2, Regs: []int64{1, 1000, 0, 3}}, api.Frame{Func: 6, At: 3, Regs: []int64{1, 49}})
	for range 6 {
		steps(t, x, h)
	}
	wantFrames(t, x, api.Frame{Func: tried, At: 5, Regs: []int64{1, 7, 2, 1000, 1049, 0}})
	if got, _ := h.Get(2, 0); got != 1 {
		t.Errorf("the closure's cell: %d", got)
	}
}

// P10.3: a call of what is no closure of the program: of a function that there is not, or of another number of cells.
func TestCallsOfNone(t *testing.T) {
	for _, c := range []struct {
		of    int
		cells int
		trap  api.Trap
	}{
		{two, 2, api.TrapNone}, {two, 0, api.TrapNull}, {two, 1, api.TrapNull}, {two, 3, api.TrapNull}, {two, api.MaxRegs, api.TrapNull},
		{none, 0, api.TrapNone}, {none, 1, api.TrapNull}, {main, 0, api.TrapNone}, {tried, most, api.TrapNone}, {tried, most - 1, api.TrapNull},
		{tried + 1, 0, api.TrapNull}, {-1, 0, api.TrapNull}, {1 << 32, 0, api.TrapNull}, {1<<32 + none, 0, api.TrapNull}, {math.MaxInt, 0, api.TrapNull}, {math.MinInt, 0, api.TrapNull},
	} {
		h := worldHeap(t)
		id, err := h.Closure(c.of, make([]int64, c.cells), 0, 1)
		if err != api.OK {
			t.Fatal(err)
		}
		x := trying(t, []int64{0, int64(id)}, api.Instr{Op: api.OpCall, A: 1})
		steps(t, x, h)
		if x.Trap() != c.trap {
			t.Errorf("%d cells of the function %d: %v, want %v", c.cells, c.of, x.Trap(), c.trap)
		}
		if c.trap != api.TrapNone {
			wantOver(t, x, c.trap)
			continue
		}
		if f := last(t, x); f.Func != c.of || f.At != 0 || len(x.Frames()) != 2 {
			t.Errorf("frames %v", x.Frames())
		}
	}
}

// P10.3: as many frames as may be, and one more.
func TestTrapDepth(t *testing.T) {
	p := around(api.Instr{Op: api.OpCall, A: 1}, api.Instr{Op: api.OpCall, A: 2})
	c := coded(t, p)
	h := heap.New()
	if _, err := h.Closure(tried, []int64{1, 1, 2, 3, 4, 5}, 0, 1); err != api.OK {
		t.Fatal(err)
	}
	x := begun(t, c, tried, 9, 1, 0, 0, 0, 0)
	for n := 1; n < api.MaxFrames; n++ {
		if len(x.Frames()) != n {
			t.Fatalf("%d frames, want %d", len(x.Frames()), n)
		}
		steps(t, x, h)
	}
	wantNext(t, x, p.Funcs[tried].Code[0])
	frames := x.Frames()
	if len(frames) != api.MaxFrames {
		t.Fatalf("%d frames", len(frames))
	}
	wrong := x.Copy()
	steps(t, x, h)
	wantOver(t, x, api.TrapDepth)
	wantFrames(t, x, frames...)
	// What is no closure is told ahead of the frames that are too many.
	steps(t, wrong, heap.New())
	wantOver(t, wrong, api.TrapNull)
}

// P10.3: a frame that went makes room for another one.
func TestCallsBehindReturns(t *testing.T) {
	c := coded(t, around(api.Instr{Op: api.OpCall, A: 1}, api.Instr{Op: api.OpJump}))
	h := worldHeap(t)
	x := begun(t, c, tried, 0, other, 0, 0, 0, 0)
	for i := range 3 * api.MaxFrames {
		steps(t, x, h)
		if err := x.Done(int64(i)); err != api.OK {
			t.Fatal(err)
		}
		steps(t, x, h)
		steps(t, x, h)
		wantFrames(t, x, api.Frame{Func: tried, Regs: filled([]int64{0, other})})
	}
}

// asks is an instruction of the machine's, what it asks for of registers 10, 11, .., and whether a value is for its register A.
type asks struct {
	x      api.Instr
	want   api.Ask
	answer bool
}

func allAsks() []asks {
	return []asks{
		{api.Instr{Op: api.OpLoad, A: 2, N: 1}, api.Ask{N: 1}, true},
		{api.Instr{Op: api.OpStore, A: 2, N: 1}, api.Ask{N: 1, V: 12}, false},
		{api.Instr{Op: api.OpPost, A: 2, B: 3, C: 1, N: 17}, api.Ask{N: 17, V: 13, Looper: 1}, true},
		{api.Instr{Op: api.OpPost, A: 3, B: 3, N: api.MaxDelay}, api.Ask{N: api.MaxDelay, V: 13}, true},
		{api.Instr{Op: api.OpFront, A: 2, B: 3, C: 1}, api.Ask{V: 13, Looper: 1}, true},
		{api.Instr{Op: api.OpCancel, A: 2}, api.Ask{V: 12}, false},
		{api.Instr{Op: api.OpEnable, N: 1}, api.Ask{N: 1}, false},
		{api.Instr{Op: api.OpDisable, N: 1}, api.Ask{N: 1}, false},
		{api.Instr{Op: api.OpSpawn, A: 2, B: 3}, api.Ask{V: 13}, true},
		{api.Instr{Op: api.OpJoin, A: 2}, api.Ask{V: 12}, false},
		{api.Instr{Op: api.OpLog, A: 2}, api.Ask{V: 12}, false},
	}
}

// P10.3: what the machine is asked for; nothing happens till it has done it.
func TestAsk(t *testing.T) {
	for _, a := range allAsks() {
		p := around(api.Instr{Op: api.OpMove}, a.x)
		for _, n := range []int64{0, 5, -1, math.MaxInt64, math.MinInt64} {
			regs := []int64{10, 11, 12, 13, 14, 15}
			x := begun(t, coded(t, p), tried, regs...)
			h := worldHeap(t)
			steps(t, x, h)
			want := a.want
			want.Op, want.Site = a.x.Op, 8
			for _, h := range []*heap.Heap{h, heap.New(), fullHeap(t)} {
				was, copied := h.Copy(), x.Copy()
				if ask, err := x.Step(h, 3, 8); err != api.OK || !reflect.DeepEqual(ask, want) {
					t.Errorf("%+v asks %+v, %v, want %+v", a.x, ask, err, want)
				}
				if !h.Same(was) || !x.Same(copied) {
					t.Errorf("%+v: something happened", a.x)
				}
			}
			wantNext(t, x, p.Funcs[tried].Code[1])
			wantFrames(t, x, api.Frame{Func: tried, At: 1, Regs: regs})
			if err := x.Done(n); err != api.OK {
				t.Errorf("Done of %+v: %v", a.x, err)
			}
			if a.answer {
				regs[a.x.A] = n
			}
			wantFrames(t, x, api.Frame{Func: tried, At: 2, Regs: regs})
			wantNext(t, x, api.Instr{Op: api.OpRet, Site: -1})
		}
	}
}

// P10.3: the machine may do what it is asked for without a step that asks again.
func TestDoneAtOnce(t *testing.T) {
	x := trying(t, nil, api.Instr{Op: api.OpLoad, A: 1}, api.Instr{Op: api.OpSpawn, A: 2, B: 1}, api.Instr{Op: api.OpLog, A: 2})
	for i, n := range []int64{4, 5, 6} {
		if err := x.Done(n); err != api.OK {
			t.Fatalf("the %d-th: %v", i, err)
		}
	}
	wantFrames(t, x, api.Frame{Func: tried, At: 3, Regs: filled([]int64{0, 4, 5})})
	if err := x.Done(7); err != api.ErrNone {
		t.Errorf("of OpRet: %v", err)
	}
}

// P10.3: Done of what is not the machine's changes nothing.
func TestDoneOfOthers(t *testing.T) {
	for _, f := range forms() {
		x := trying(t, []int64{1, 2, 3}, instruction(f.op))
		was := x.Copy()
		want := api.ErrNone
		if f.shared {
			want = api.OK
		}
		if err := x.Done(7); err != want || x.Same(was) != (want != api.OK) {
			t.Errorf("%d: %v", f.op, err)
		}
	}
}

// P10.2: what is next, of each instruction.
func TestNext(t *testing.T) {
	var code []api.Instr
	for i, f := range forms() {
		x := instruction(f.op)
		x.Line = i * 7
		code = append(code, x)
	}
	p := around(code...)
	c := coded(t, p)
	for at, want := range p.Funcs[tried].Code {
		if at == 0 {
			continue
		}
		// The first one is OpConst: in its place one stands that goes to what is asked for.
		q := alike(p)
		q.Funcs[tried].Code[0] = api.Instr{Op: api.OpJump, N: int64(at), Site: -1}
		x := begun(t, coded(t, q), tried, 0, 0, 0, 0, 0, 0)
		steps(t, x, heap.New())
		wantNext(t, x, want)
	}
	wantNext(t, begun(t, c, tried, 0, 0, 0, 0, 0, 0), p.Funcs[tried].Code[0])
}

// P10.4: a step touches no other thread, nor does Done: threads of one code that take turns are as if each were alone.
func TestTurns(t *testing.T) {
	c := coded(t, around(
		api.Instr{Op: api.OpAdd, A: 1, B: 1, C: 0},
		api.Instr{Op: api.OpLoad, A: 2},
		api.Instr{Op: api.OpCall, A: 3},
		api.Instr{Op: api.OpJump},
	))
	h := worldHeap(t)
	var all []*step.Thread
	for i := range 5 {
		all = append(all, begun(t, c, tried, int64(i), 0, 0, other, 0, 0))
	}
	for round := range 10 {
		for i, x := range all {
			steps(t, x, h)
			if err := x.Done(int64(100*round + i)); err != api.OK {
				t.Fatal(err)
			}
			steps(t, x, h)
		}
		for i, x := range all {
			wantFrames(t, x, api.Frame{Func: tried, At: 3, Regs: []int64{int64(i), int64(i * (round + 1)), int64(100*round + i), other, 0, 0}}, api.Frame{Func: none})
			if err := x.Done(1); err != api.OK {
				t.Fatal(err)
			}
			steps(t, x, h)
			steps(t, x, h)
		}
	}
}

// P10.4: each instruction ends, whatever values registers have, and whatever the heap is.
func TestWhateverValues(t *testing.T) {
	values := append(noObjects(), cell, plain, array, closure, empty, fieldless, other)
	for _, f := range forms() {
		for _, n := range []int64{0, 1, 2} {
			x := instruction(f.op)
			x.A, x.B, x.C = 0, 1, 2
			switch f.op {
			case api.OpClosure:
			case api.OpPost, api.OpFront:
				x.C = 1
			case api.OpEnable, api.OpDisable, api.OpLoad, api.OpStore, api.OpJump, api.OpZero:
				x.N = n % 2
			default:
				x.N = n
			}
			c := coded(t, around(x))
			for _, a := range values {
				for _, b := range values {
					for _, h := range []*heap.Heap{worldHeap(t), {}} {
						whatever(t, fmt.Sprint(x, a, b), begun(t, c, tried, a, b, a, b, a, b), h)
					}
				}
			}
		}
	}
}

// whatever does a step that must end, and holds that it goes together with what else is told.
func whatever(t *testing.T, what string, x *step.Thread, h *heap.Heap) {
	t.Helper()
	next, _ := x.Next()
	was := x.Copy()
	ask, err := x.Step(h, 1, 1)
	switch {
	case err != api.OK:
		t.Fatalf("%s: %v", what, err)
	case step.Shared(next.Op) != (ask.Op == next.Op) || len(ask.Accesses) > 1:
		t.Fatalf("%s asks %+v", what, ask)
	case step.Shared(next.Op) && !x.Same(was):
		t.Fatalf("%s: something happened", what)
	case x.Trap() != api.TrapNone && (len(ask.Accesses) > 0 || !x.Over()):
		t.Fatalf("%s: %v, over %v, %+v", what, x.Trap(), x.Over(), ask)
	}
}
