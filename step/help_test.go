package step_test

import (
	"math"
	"reflect"
	"slices"
	"testing"

	"detent/api"
	"detent/heap"
	"detent/step"
)

// form is how an operation is: which of A, B, C it names as registers; has it a site; is it the machine's?
type form struct {
	op     api.Op
	names  string
	site   bool
	shared bool
}

// forms are api's operations, in its order.
func forms() []form {
	return []form{
		{api.OpConst, "A", false, false}, {api.OpMove, "AB", false, false}, {api.OpAdd, "ABC", false, false}, {api.OpSub, "ABC", false, false},
		{api.OpMul, "ABC", false, false}, {api.OpLess, "ABC", false, false}, {api.OpSame, "ABC", false, false}, {api.OpIt, "A", false, false},
		{api.OpLoad, "A", true, true}, {api.OpStore, "A", true, true}, {api.OpCell, "A", true, false}, {api.OpGet, "AB", true, false}, {api.OpPut, "AB", true, false},
		{api.OpNew, "A", true, false}, {api.OpField, "AB", true, false}, {api.OpSetField, "AB", true, false}, {api.OpArray, "AB", true, false},
		{api.OpElem, "ABC", true, false}, {api.OpSetElem, "ABC", true, false}, {api.OpLen, "AB", false, false}, {api.OpClosure, "A", true, false}, {api.OpCall, "A", true, false},
		{api.OpPost, "AB", true, true}, {api.OpFront, "AB", true, true}, {api.OpCancel, "A", true, true}, {api.OpEnable, "", true, true}, {api.OpDisable, "", true, true},
		{api.OpSpawn, "AB", true, true}, {api.OpJoin, "A", true, true}, {api.OpLog, "A", true, true}, {api.OpJump, "", false, false}, {api.OpZero, "A", false, false}, {api.OpRet, "", false, false},
	}
}

// noOps are numbers that no operation has.
func noOps() []api.Op {
	return []api.Op{0, -1, api.OpRet + 1, api.OpRet + 2, 100, 1 << 32, 1<<32 + api.OpAdd, -1 << 32, math.MaxInt, math.MinInt}
}

// numbered gives a program's sites their numbers, and makes a program that shares nothing with it.
func numbered(p api.Prog) api.Prog {
	p = alike(p)
	p.Sites = nil
	for f := range p.Funcs {
		for at := range p.Funcs[f].Code {
			x := &p.Funcs[f].Code[at]
			x.Site = -1
			if x.Op >= api.OpConst && x.Op <= api.OpRet && forms()[x.Op-1].site {
				x.Site = len(p.Sites)
				p.Sites = append(p.Sites, api.Site{Func: f, At: at})
			}
		}
	}
	return p
}

// alike makes a program that shares nothing with another one, but is the same.
func alike(p api.Prog) api.Prog {
	p.Loopers = slices.Clone(p.Loopers)
	p.Classes = slices.Clone(p.Classes)
	for i, c := range p.Classes {
		p.Classes[i].Names, p.Classes[i].Fields = slices.Clone(c.Names), slices.Clone(c.Fields)
	}
	p.Globals = slices.Clone(p.Globals)
	p.Funcs = slices.Clone(p.Funcs)
	for f := range p.Funcs {
		code := slices.Clone(p.Funcs[f].Code)
		for at := range code {
			code[at].L = slices.Clone(code[at].L)
		}
		p.Funcs[f].Code = code
	}
	p.Comps, p.Events, p.Sites = slices.Clone(p.Comps), slices.Clone(p.Events), slices.Clone(p.Sites)
	return p
}

// The functions of around, by their numbers.
const (
	main = iota
	callback
	none
	two
	tried
)

// most is how many registers the function tried has: it captures all of them, so that a thread begins with any values.
const most = 6

// around is a program with some of each thing. Its functions: main; a callback; one without registers; one that captures two cells; and tried, which has the code told, and OpRet behind it.
func around(code ...api.Instr) api.Prog {
	return numbered(api.Prog{
		Loopers: []string{"a", "b"},
		Classes: []api.Class{
			{Name: "C", Names: []string{"i", "c", "d"}, Fields: []api.Type{api.TypeInt, -1, -2}},
			{Name: "D", Names: []string{"r"}, Fields: []api.Type{api.TypeArray}},
			{Name: "E"},
		},
		Globals: []api.Global{{Name: "g", Type: api.TypeInt}, {Name: "h", Type: -3}},
		Funcs: []api.Func{
			{Name: "main", Regs: 2, Code: []api.Instr{{Op: api.OpClosure, N: none, Line: 4}, {Op: api.OpCall}, {Op: api.OpRet}}},
			{Name: "callback", Regs: 4, Code: []api.Instr{
				{Op: api.OpCell, N: -2}, {Op: api.OpClosure, A: 1, N: two, L: []int{0, 3}}, {Op: api.OpPost, A: 2, B: 1, C: 1, N: 5}, {Op: api.OpRet},
			}},
			{Name: "none", Code: []api.Instr{{Op: api.OpEnable, N: 1}, {Op: api.OpRet}}},
			{Name: "two", Captures: 2, Regs: 3, Code: []api.Instr{{Op: api.OpGet, A: 2, B: 1}, {Op: api.OpPut, B: 2}, {Op: api.OpJump}}},
			{Name: "tried", Captures: most, Regs: most, Code: append(slices.Clone(code), api.Instr{Op: api.OpRet})},
		},
		Comps:  []api.Comp{{Name: "m", Looper: 1, Funcs: [api.Lives]int{-1, callback, math.MinInt, callback}}, {Name: "n", Funcs: [api.Lives]int{-1, -1, -1, -7}}},
		Events: []api.Event{{Name: "e", Looper: 1, On: true, Func: callback}, {Name: "k", Func: none}},
	})
}

// coded makes the code of a program that may be.
func coded(t *testing.T, p api.Prog) *step.Code {
	t.Helper()
	c, err := step.New(p)
	if err != api.OK || c == nil {
		t.Fatalf("New: %v, %v", c, err)
	}
	return c
}

// begun makes a thread at a function's beginning.
func begun(t *testing.T, c *step.Code, f int, cells ...int64) *step.Thread {
	t.Helper()
	x, err := c.Begin(f, cells)
	if err != api.OK || x == nil {
		t.Fatalf("Begin(%d, %v): %v, %v", f, cells, x, err)
	}
	return x
}

// trying makes a thread of the function tried, of the code told, and of the values of registers (others are 0).
func trying(t *testing.T, regs []int64, code ...api.Instr) *step.Thread {
	t.Helper()
	return begun(t, coded(t, around(code...)), tried, filled(regs)...)
}

// filled are the values of all registers of the function tried.
func filled(regs []int64) []int64 {
	all := make([]int64, most)
	copy(all, regs)
	return all
}

// steps does a step that is the thread's own, and tells what it accessed.
func steps(t *testing.T, x *step.Thread, h *heap.Heap) []api.Access {
	t.Helper()
	ask, err := x.Step(h, 3, 8)
	if err != api.OK {
		t.Fatalf("Step: %+v, %v", ask, err)
	}
	l := ask.Accesses
	if ask.Accesses = nil; !reflect.DeepEqual(ask, api.Ask{}) {
		t.Fatalf("Step asks %+v", ask)
	}
	return l
}

// last is the frame that runs.
func last(t *testing.T, x *step.Thread) api.Frame {
	t.Helper()
	l := x.Frames()
	if len(l) == 0 {
		t.Fatal("no frames")
	}
	return l[len(l)-1]
}

// wantFrames holds a thread's frames against what they must be.
func wantFrames(t *testing.T, x *step.Thread, want ...api.Frame) {
	t.Helper()
	same := func(a, b api.Frame) bool { return a.Func == b.Func && a.At == b.At && slices.Equal(a.Regs, b.Regs) }
	if got := x.Frames(); !slices.EqualFunc(got, want, same) {
		t.Errorf("frames %v, want %v", got, want)
	}
}

// wantOver holds that a thread is over, by each look, that nothing more is done of it, and that its fault is as told.
func wantOver(t *testing.T, x *step.Thread, trap api.Trap) {
	t.Helper()
	if !x.Over() || x.Trap() != trap {
		t.Errorf("over %v, trap %v, want %v", x.Over(), x.Trap(), trap)
	}
	if i, is := x.Next(); is || !reflect.DeepEqual(i, api.Instr{}) {
		t.Errorf("Next: %v, %v", i, is)
	}
	was, h := x.Copy(), heap.New()
	if ask, err := x.Step(h, 1, 1); err != api.ErrNone || !reflect.DeepEqual(ask, api.Ask{}) || h.Count() > 0 {
		t.Errorf("Step: %+v, %v", ask, err)
	}
	if err := x.Done(1); err != api.ErrNone {
		t.Errorf("Done: %v", err)
	}
	if !x.Same(was) {
		t.Error("a thread that is over is changed")
	}
}

// wantNext holds that a thread is not over, and which instruction is next.
func wantNext(t *testing.T, x *step.Thread, want api.Instr) {
	t.Helper()
	got, is := x.Next()
	if len(got.L)+len(want.L) == 0 {
		got.L, want.L = nil, nil
	}
	if !is || !reflect.DeepEqual(got, want) || x.Over() || x.Trap() != api.TrapNone {
		t.Errorf("Next: %+v, %v, want %+v; over %v, trap %v", got, is, want, x.Over(), x.Trap())
	}
}

// The objects of world, by their numbers.
const (
	cell = 1 + iota
	plain
	array
	closure
	empty
	fieldless
	other // a closure of no cells
	world
)

// worldHeap is a heap with objects of each kind.
func worldHeap(t *testing.T) *heap.Heap {
	t.Helper()
	h := heap.New()
	lay := func(want, id int, err api.Errno) {
		t.Helper()
		if id != want || err != api.OK {
			t.Fatalf("the object %d: %d, %v", want, id, err)
		}
	}
	id, err := h.Make(api.ObjCell, int(api.TypeInt), 1, 0, 7)
	lay(cell, id, err)
	id, err = h.Make(api.ObjPlain, 0, 3, 0, 7)
	lay(plain, id, err)
	id, err = h.Make(api.ObjArray, 0, 4, 0, 3)
	lay(array, id, err)
	id, err = h.Closure(two, []int64{cell, 40}, 0, 3)
	lay(closure, id, err)
	id, err = h.Make(api.ObjArray, 0, 0, 0, 7)
	lay(empty, id, err)
	id, err = h.Make(api.ObjPlain, 2, 0, 0, 7)
	lay(fieldless, id, err)
	id, err = h.Closure(none, nil, 0, 7)
	lay(other, id, err)
	for i, n := range []int64{20, -21, math.MinInt64} {
		put(t, h, plain, i, n)
	}
	for i, n := range []int64{30, 31, math.MaxInt64, -33} {
		put(t, h, array, i, n)
	}
	put(t, h, cell, 0, 10)
	return h
}

func put(t *testing.T, h *heap.Heap, id int64, i int, n int64) {
	t.Helper()
	if err := h.Set(id, i, n); err != api.OK {
		t.Fatalf("Set(%d, %d, %d): %v", id, i, n, err)
	}
}

// noObjects are numbers that none of world has.
func noObjects() []int64 {
	return []int64{0, -1, world, world + 1, api.MaxObjects, 1<<32 + cell, 1<<32 + plain, 1<<32 + array, 1<<32 + closure, -1 << 32, math.MaxInt64, math.MinInt64}
}

// fullHeap is a heap in which there is no room.
func fullHeap(t *testing.T) *heap.Heap {
	t.Helper()
	h := worldHeap(t)
	for h.Count() < api.MaxObjects {
		if _, err := h.Make(api.ObjCell, 1, 1, 0, 9); err != api.OK {
			t.Fatal(err)
		}
	}
	return h
}
