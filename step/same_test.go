package step_test

import (
	"fmt"
	"testing"

	"detent/api"
	"detent/heap"
	"detent/step"
)

// wantSame holds that two threads are the same, or not, whichever is asked.
func wantSame(t *testing.T, what string, x, y *step.Thread, want bool) {
	t.Helper()
	if x.Same(y) != want || y.Same(x) != want {
		t.Errorf("%s: same %v, %v, want %v", what, x.Same(y), y.Same(x), want)
	}
}

// P10.2: no threads, and zero ones.
func TestSameOfNone(t *testing.T) {
	var none *step.Thread
	all := []*step.Thread{none, {}, new(step.Thread).Copy(), none.Copy()}
	for i, x := range all {
		for j, y := range all {
			wantSame(t, fmt.Sprint(i, " and ", j), x, y, true)
		}
	}
	h := heap.New()
	over, trap := trying(t, nil), trying(t, nil, api.Instr{Op: api.OpCall})
	steps(t, over, h)
	steps(t, trap, h)
	for i, x := range all {
		wantSame(t, fmt.Sprint(i, " and one"), x, trying(t, nil), false)
		wantSame(t, fmt.Sprint(i, " and one that is over"), x, over, false)
		wantSame(t, fmt.Sprint(i, " and one with a trap"), x, trap, false)
	}
	wantSame(t, "one that is over, and one with a trap", over, trap, false)
}

// P10.2: threads of codes of the same program are the same, if all else is.
func TestSameOfOneProgram(t *testing.T) {
	p := around(api.Instr{Op: api.OpClosure, N: two, L: []int{1, 2}})
	c, d := coded(t, p), coded(t, p)
	wantSame(t, "of one code", begun(t, c, two, 3, 4), begun(t, c, two, 3, 4), true)
	wantSame(t, "of two codes", begun(t, c, two, 3, 4), begun(t, d, two, 3, 4), true)
	wantSame(t, "of the code of what Prog tells", begun(t, c, two, 3, 4), begun(t, coded(t, c.Prog()), two, 3, 4), true)
	x, y := begun(t, c, main), begun(t, d, main)
	h := worldHeap(t)
	steps(t, x, h)
	wantSame(t, "one step ahead", x, y, false)
	steps(t, y, worldHeap(t))
	wantSame(t, "as far", x, y, true)
	steps(t, x, h)
	wantSame(t, "a call ahead", x, y, false)
	steps(t, y, h)
	wantSame(t, "as far, in a call", x, y, true)
}

// P10.2: threads that differ in one thing alone: in one register, in what is next, in the function.
func TestSameDiffers(t *testing.T) {
	c := coded(t, around(api.Instr{Op: api.OpMove}, api.Instr{Op: api.OpMove}))
	stepped := func(n int, regs ...int64) *step.Thread {
		x := begun(t, c, tried, regs...)
		for range n {
			steps(t, x, heap.New())
		}
		return x
	}
	for n := range 3 {
		x := stepped(n, 1, 2, 3, 4, 5, 6)
		for m := range 3 {
			wantSame(t, fmt.Sprint(n, " and ", m, " steps"), x, stepped(m, 1, 2, 3, 4, 5, 6), n == m)
		}
		for i := range most {
			regs := []int64{1, 2, 3, 4, 5, 6}
			regs[i] += 1 << 40
			wantSame(t, fmt.Sprint("another register ", i, " behind ", n, " steps"), x, stepped(n, regs...), false)
		}
	}
	p := around()
	p.Funcs = append(p.Funcs, p.Funcs[main])
	d := coded(t, numbered(p))
	wantSame(t, "another function that is like it", begun(t, d, main), begun(t, d, 5), false)
}

// P10.2: threads of the same frames that differ in their faults: both stand at one instruction.
func TestSameFaults(t *testing.T) {
	c := coded(t, around(api.Instr{Op: api.OpElem, A: 1, B: 1, C: 2}))
	x := begun(t, c, tried, 0, array, 9, 0, 0, 0)
	y, z := x.Copy(), x.Copy()
	steps(t, x, worldHeap(t))
	steps(t, y, heap.New())
	wantOver(t, x, api.TrapIndex)
	wantOver(t, y, api.TrapNull)
	wantSame(t, "two faults", x, y, false)
	wantSame(t, "a fault, and none", x, z, false)
	steps(t, z, worldHeap(t))
	wantSame(t, "one fault", x, z, true)
}

// P10.2: threads that differ in one frame, the first one or the last one, and in how many there are.
func TestSameFrames(t *testing.T) {
	c := coded(t, around(api.Instr{Op: api.OpCall, A: 1}, api.Instr{Op: api.OpConst}, api.Instr{Op: api.OpJump}))
	deep := func(cell int64, outer int64, calls int) *step.Thread {
		h := heap.New()
		if _, err := h.Closure(tried, []int64{cell, 1, 2, 3, 4, 5}, 0, 1); err != api.OK {
			t.Fatal(err)
		}
		x := begun(t, c, tried, 0, 1, 0, 0, 0, outer)
		for range calls {
			steps(t, x, h)
		}
		return x
	}
	wantSame(t, "two frames", deep(7, 1, 1), deep(7, 1, 1), true)
	wantSame(t, "another last frame", deep(7, 1, 1), deep(8, 1, 1), false)
	wantSame(t, "another first frame", deep(7, 1, 1), deep(7, 2, 1), false)
	wantSame(t, "a frame more", deep(7, 1, 1), deep(7, 1, 2), false)
	wantSame(t, "another one between", deep(7, 1, 5), deep(8, 1, 5), false)
	wantSame(t, "five calls", deep(7, 1, 5), deep(7, 1, 5), true)
}

// P10.2: threads of two programs are never the same, though all that they have is.
func TestSameOfTwoPrograms(t *testing.T) {
	p := around(api.Instr{Op: api.OpClosure, N: two, L: []int{1, 2}, Line: 3}, api.Instr{Op: api.OpField, N: 2}, api.Instr{Op: api.OpElem, C: 1})
	c := coded(t, p)
	for what, change := range map[string]func(p *api.Prog){
		"a looper's name":          func(p *api.Prog) { p.Loopers[1] = "c" },
		"a looper more":            func(p *api.Prog) { p.Loopers = append(p.Loopers, "c") },
		"a class's name":           func(p *api.Prog) { p.Classes[2].Name = "F" },
		"a field's name":           func(p *api.Prog) { p.Classes[0].Names[2] = "e" },
		"a field's type":           func(p *api.Prog) { p.Classes[0].Fields[2] = -1 },
		"a class more":             func(p *api.Prog) { p.Classes = append(p.Classes, api.Class{}) },
		"a global's name":          func(p *api.Prog) { p.Globals[0].Name = "G" },
		"a global's type":          func(p *api.Prog) { p.Globals[0].Type = api.TypeFn },
		"a global more":            func(p *api.Prog) { p.Globals = append(p.Globals, api.Global{}) },
		"a function's name":        func(p *api.Prog) { p.Funcs[tried].Name = "tr" },
		"a function's cells":       func(p *api.Prog) { p.Funcs[tried].Captures = 1 },
		"a function's registers":   func(p *api.Prog) { p.Funcs[tried].Regs++ },
		"a function more":          func(p *api.Prog) { p.Funcs = append(p.Funcs, api.Func{Code: []api.Instr{{Op: api.OpRet, Site: -1}}}) },
		"an instruction more":      func(p *api.Prog) { f := &p.Funcs[tried]; f.Code = append(f.Code, f.Code[3]) },
		"an instruction's kind":    func(p *api.Prog) { p.Funcs[tried].Code[3].Op = api.OpJump },
		"an instruction's A":       func(p *api.Prog) { p.Funcs[tried].Code[1].A = 1 },
		"an instruction's B":       func(p *api.Prog) { p.Funcs[tried].Code[1].B = 1 },
		"an instruction's C":       func(p *api.Prog) { p.Funcs[tried].Code[2].C = 2 },
		"an instruction's N":       func(p *api.Prog) { p.Funcs[tried].Code[1].N = 1 },
		"an instruction's L":       func(p *api.Prog) { p.Funcs[tried].Code[0].L[1] = 1 },
		"an instruction's line":    func(p *api.Prog) { p.Funcs[tried].Code[0].Line = 4 },
		"a component's name":       func(p *api.Prog) { p.Comps[1].Name = "o" },
		"a component's looper":     func(p *api.Prog) { p.Comps[1].Looper = 1 },
		"a component's callback":   func(p *api.Prog) { p.Comps[1].Funcs[3] = none },
		"a component more":         func(p *api.Prog) { p.Comps = append(p.Comps, api.Comp{}) },
		"an event's name":          func(p *api.Prog) { p.Events[1].Name = "l" },
		"an event's looper":        func(p *api.Prog) { p.Events[1].Looper = 1 },
		"whether an event is on":   func(p *api.Prog) { p.Events[1].On = true },
		"an event's handler":       func(p *api.Prog) { p.Events[1].Func = main },
		"an event more":            func(p *api.Prog) { p.Events = append(p.Events, api.Event{}) },
		"the main function":        func(p *api.Prog) { p.Main = none },
		"two loopers, in one word": func(p *api.Prog) { p.Loopers = []string{"", "ab"} },
	} {
		q := alike(p)
		change(&q)
		d := coded(t, q)
		wantSame(t, what, begun(t, c, two, 1, 2), begun(t, d, two, 1, 2), false)
		wantSame(t, what, begun(t, d, two, 1, 2), begun(t, coded(t, q), two, 1, 2), true)
	}
}

// P10.2: a copy is the same, and goes on apart, both ways: in registers, in what is next, in frames, in the fault.
func TestCopy(t *testing.T) {
	p := around(
		api.Instr{Op: api.OpConst, A: 2, N: 8},
		api.Instr{Op: api.OpCall, A: 1},
		api.Instr{Op: api.OpLoad, A: 4},
		api.Instr{Op: api.OpGet, A: 0, B: 4},
	)
	c := coded(t, p)
	begin := func() *step.Thread { return begun(t, c, tried, 0, other, 0, 0, 0, 0) }
	// Each goes on so far, then it is copied; then one of both goes on.
	on := func(x *step.Thread, from, to int) {
		for range to - from {
			if i, _ := x.Next(); step.Shared(i.Op) {
				x.Done(3)
				continue
			}
			steps(t, x, worldHeap(t))
		}
	}
	for from := range 7 {
		for to := from + 1; to < 7; to++ {
			for _, copied := range []bool{false, true} {
				x := begin()
				on(x, 0, from)
				goes, stays := x, x.Copy()
				if copied {
					goes, stays = stays, goes
				}
				wantSame(t, "a copy", goes, stays, true)
				on(goes, from, to)
				what := fmt.Sprintf("from %d to %d, the copy: %v", from, to, copied)
				want := begin()
				on(want, 0, from)
				wantSame(t, what+": what stays", stays, want, true)
				on(want, from, to)
				wantSame(t, what+": what goes on", goes, want, true)
				wantSame(t, what, goes, stays, false)
				on(stays, from, to)
				wantSame(t, what+": both", goes, stays, true)
			}
		}
	}
	x := begin()
	on(x, 0, 6)
	wantOver(t, x.Copy(), api.TrapNull)
}

// P10.2: a copy of a call within a call goes on apart in each frame.
func TestCopyOfFrames(t *testing.T) {
	c := coded(t, around(api.Instr{Op: api.OpCall, A: 1}, api.Instr{Op: api.OpConst, A: 0, N: 77}))
	h := heap.New()
	if _, err := h.Closure(tried, []int64{5, 0, 5, 5, 5, 5}, 0, 1); err != api.OK {
		t.Fatal(err)
	}
	x := begun(t, c, tried, 0, 1, 0, 0, 0, 0)
	steps(t, x, h)
	frames := []api.Frame{{Func: tried, At: 1, Regs: []int64{0, 1, 0, 0, 0, 0}}, {Func: tried, Regs: []int64{5, 0, 5, 5, 5, 5}}}
	for _, y := range []*step.Thread{x.Copy(), x.Copy().Copy()} {
		wantFrames(t, y, frames...)
		steps(t, y, h)
		wantOver(t, y, api.TrapNull)
		wantFrames(t, x, frames...)
	}
	y := x.Copy()
	steps(t, x, h)
	wantOver(t, x, api.TrapNull)
	wantFrames(t, y, frames...)
	wantNext(t, y, c.Prog().Funcs[tried].Code[0])
}
