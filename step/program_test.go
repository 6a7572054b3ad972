package step_test

import (
	"fmt"
	"math"
	"reflect"
	"slices"
	"strings"
	"testing"

	"detent/api"
	"detent/heap"
	"detent/step"
)

// wantMay holds that a program may be, or not.
func wantMay(t *testing.T, what string, p api.Prog, may bool) {
	t.Helper()
	was := alike(p)
	c, err := step.New(p)
	switch {
	case may && (err != api.OK || c == nil):
		t.Errorf("%s: %v, %v, want code", what, c, err)
	case !may && (err != api.ErrArg || c != nil):
		t.Errorf("%s: %v, %v, want ErrArg", what, c, err)
	case may && !reflect.DeepEqual(c.Prog(), was):
		t.Errorf("%s: the program is another one", what)
	}
	if !reflect.DeepEqual(p, was) {
		t.Errorf("%s: New changed the program", what)
	}
}

// beyond are numbers that none of so many has, counted from 0 on.
func beyond(count int) []int {
	return []int{-1, -2, count, count + 1, 1 << 32, -1 << 32, 1<<32 + count - 1, math.MaxInt, math.MinInt}
}

// P10.1: Shared and IsSite of each operation, and of what is none.
func TestSharedIsSite(t *testing.T) {
	if len(forms()) != int(api.OpRet) {
		t.Fatal(len(forms()))
	}
	for i, f := range forms() {
		if f.op != api.Op(1+i) || step.Shared(f.op) != f.shared || step.IsSite(f.op) != f.site {
			t.Errorf("%d: shared %v, a site %v", f.op, step.Shared(f.op), step.IsSite(f.op))
		}
	}
	for _, o := range noOps() {
		if step.Shared(o) || step.IsSite(o) {
			t.Errorf("%d: shared %v, a site %v", o, step.Shared(o), step.IsSite(o))
		}
	}
}

// P10.1: programs that may be.
func TestNew(t *testing.T) {
	wantMay(t, "one with some of each thing", around(), true)
	least := api.Prog{Loopers: []string{""}, Funcs: []api.Func{{Code: []api.Instr{{Op: api.OpRet, Site: -1}}}}}
	wantMay(t, "the least one", least, true)
	least.Funcs[0].Code[0].Op = api.OpJump
	wantMay(t, "one that goes on for ever", least, true)
	wantMay(t, "none", api.Prog{}, false)
}

// P10.1: names, lines, and what nothing is said of are as they like.
func TestNewLetsBe(t *testing.T) {
	for _, c := range []struct {
		what   string
		change func(p *api.Prog)
	}{
		{"loopers alike", func(p *api.Prog) { p.Loopers[1] = p.Loopers[0] }},
		{"names of no letters", func(p *api.Prog) {
			p.Loopers[0], p.Funcs[0].Name, p.Globals[0].Name = "\xff", "", strings.Repeat("!", 99)
		}},
		{"fields alike", func(p *api.Prog) { p.Classes[0].Names[1] = p.Classes[0].Names[0] }},
		{"lines", func(p *api.Prog) { p.Funcs[0].Code[0].Line, p.Funcs[0].Code[1].Line = -9, math.MaxInt }},
		{"a main function that is a callback", func(p *api.Prog) { p.Main = callback }},
		{"a component's functions below 0", func(p *api.Prog) { p.Comps[0].Funcs = [api.Lives]int{-1, -2, -1 << 32, math.MinInt} }},
		{"types of nothing", func(p *api.Prog) { p.Classes[0].Fields[0], p.Globals[0].Type = api.TypeNull, api.TypeNull }},
		{"a list of no cells", func(p *api.Prog) { p.Funcs[0].Code[1].L = []int{} }},
		{"a closure of the function that makes it", func(p *api.Prog) { p.Funcs[main].Code[0].N = main }},
		{"one cell captured twice", func(p *api.Prog) { p.Funcs[callback].Code[1].L = []int{3, 3} }},
	} {
		p := around()
		c.change(&p)
		wantMay(t, c.what, p, true)
	}
}

// many tells how often something stands.
func many[T any](n int, x T) []T { return slices.Repeat([]T{x}, n) }

// P10.1: each limit at just so many, at one more, and at many more.
func TestNewLimits(t *testing.T) {
	ret := api.Instr{Op: api.OpRet}
	for _, c := range []struct {
		what        string
		least, most int
		change      func(p *api.Prog, n int)
	}{
		{"loopers", 2, api.MaxLoopers, func(p *api.Prog, n int) { p.Loopers = many(n, "l") }},
		{"classes", 3, api.MaxClasses, func(p *api.Prog, n int) { p.Classes = many(n, api.Class{}) }},
		{"fields", 0, api.MaxFields, func(p *api.Prog, n int) {
			p.Classes[1] = api.Class{Names: many(n, "x"), Fields: many(n, api.TypeInt)}
		}},
		{"globals", 0, api.MaxGlobals, func(p *api.Prog, n int) { p.Globals = many(n, api.Global{Type: -1}) }},
		{"components", 0, api.MaxComps, func(p *api.Prog, n int) { p.Comps = many(n, api.Comp{}) }},
		{"events", 2, api.MaxEvents, func(p *api.Prog, n int) { p.Events = many(n, api.Event{}) }},
		{"functions", 5, api.MaxFuncs, func(p *api.Prog, n int) {
			p.Funcs = append(p.Funcs, many(n-5, api.Func{Code: []api.Instr{ret}})...)
		}},
		{"registers", most, api.MaxRegs, func(p *api.Prog, n int) { p.Funcs[tried].Regs = n }},
		{"cells", 0, api.MaxRegs, func(p *api.Prog, n int) { p.Funcs[tried].Regs, p.Funcs[tried].Captures = n, n }},
		{"cells of an instruction", 0, api.MaxRegs, func(p *api.Prog, n int) {
			p.Funcs[tried].Regs, p.Funcs[tried].Captures = n, n
			p.Funcs[main].Code[0] = api.Instr{Op: api.OpClosure, N: tried, L: make([]int, n)}
		}},
		{"instructions", 1, api.MaxCode, func(p *api.Prog, n int) { p.Funcs[tried].Code = many(n, ret) }},
		{"sites of one function", 0, api.MaxSites - 8, func(p *api.Prog, n int) {
			p.Funcs[tried].Code = append(many(n, api.Instr{Op: api.OpStore}), ret)
		}},
		{"sites of many functions", 5, api.MaxSites - 8, func(p *api.Prog, n int) {
			for i := range 5 {
				code := append(many((n+i)/5, api.Instr{Op: api.OpEnable}), ret)
				p.Funcs = append(p.Funcs, api.Func{Code: code})
			}
		}},
		{"later", 0, api.MaxDelay, func(p *api.Prog, n int) { p.Funcs[callback].Code[2].N = int64(n) }},
	} {
		for _, n := range []int{c.least, c.most - 1, c.most, c.most + 1, c.most + 100} {
			p := around()
			c.change(&p, n)
			wantMay(t, fmt.Sprint(n, " ", c.what), numbered(p), n <= c.most)
		}
	}
}

// P10.1: each thing that a program may not be, one by one.
func TestNewWrong(t *testing.T) {
	for _, c := range []struct {
		what   string
		change func(p *api.Prog)
	}{
		{"no looper", func(p *api.Prog) {
			p.Loopers, p.Comps, p.Events, p.Funcs[callback].Code = nil, nil, nil, p.Funcs[main].Code
		}},
		{"no function", func(p *api.Prog) { p.Funcs, p.Comps, p.Events = nil, nil, nil }},
		{"fewer names than fields", func(p *api.Prog) { p.Classes[0].Names = p.Classes[0].Names[:2] }},
		{"more names than fields", func(p *api.Prog) { p.Classes[0].Fields = p.Classes[0].Fields[:2] }},
		{"a name of no field", func(p *api.Prog) { p.Classes[2].Names = []string{"x"} }},
		{"a field of no class", func(p *api.Prog) { p.Classes[0].Fields[1] = -4 }},
		{"a field of no class, far off", func(p *api.Prog) { p.Classes[1].Fields[0] = math.MinInt }},
		{"a global of no class", func(p *api.Prog) { p.Globals[0].Type = -4 }},
		{"a global of no class, far off", func(p *api.Prog) { p.Globals[1].Type = math.MinInt }},
		{"registers below 0", func(p *api.Prog) { p.Funcs[none].Regs = -1 }},
		{"registers far below 0", func(p *api.Prog) { p.Funcs[none].Regs = math.MinInt }},
		{"cells below 0", func(p *api.Prog) { p.Funcs[none].Captures = -1 }},
		{"more cells than registers", func(p *api.Prog) { p.Funcs[tried].Captures = most + 1 }},
		{"cells, and no registers", func(p *api.Prog) { p.Funcs[tried].Regs, p.Funcs[tried].Captures = 0, 1 }},
		{"no instruction", func(p *api.Prog) { p.Funcs[tried].Code = nil }},
		{"a list of no instruction", func(p *api.Prog) { p.Funcs[tried].Code = []api.Instr{} }},
		{"a main function that captures", func(p *api.Prog) { p.Main = two }},
		{"a callback that captures", func(p *api.Prog) { p.Comps[0].Funcs[0] = two }},
		{"a last callback that captures", func(p *api.Prog) { p.Comps[1].Funcs[3] = two }},
		{"a callback that captures, and is the first function", func(p *api.Prog) {
			p.Main, p.Funcs[main].Captures, p.Comps[0].Funcs[2] = none, 1, main
		}},
		{"a handler that captures, and is the first function", func(p *api.Prog) {
			p.Main, p.Funcs[main].Captures, p.Events[0].Func = none, 1, main
		}},
		{"a handler that captures", func(p *api.Prog) { p.Events[1].Func = two }},
		{"fewer cells than the function captures", func(p *api.Prog) { p.Funcs[callback].Code[1].L = []int{0} }},
		{"no cells", func(p *api.Prog) { p.Funcs[callback].Code[1].L = nil }},
		{"more cells than the function captures", func(p *api.Prog) { p.Funcs[callback].Code[1].L = []int{0, 3, 3} }},
		{"cells, of a function that captures none", func(p *api.Prog) { p.Funcs[main].Code[0].L = []int{0} }},
	} {
		p := around()
		c.change(&p)
		wantMay(t, c.what, numbered(p), false)
	}
}

// P10.1: the last instruction is OpRet or OpJump, no other one.
func TestNewLastInstruction(t *testing.T) {
	for _, f := range forms() {
		p := around()
		p.Funcs[tried].Code = []api.Instr{{Op: api.OpConst}, instruction(f.op)}
		wantMay(t, fmt.Sprint("the last one is ", f.op), numbered(p), f.op == api.OpRet || f.op == api.OpJump)
		p.Funcs[tried].Code = append(p.Funcs[tried].Code, api.Instr{Op: api.OpRet})
		wantMay(t, fmt.Sprint("the last but one is ", f.op), numbered(p), true)
	}
	for _, o := range noOps() {
		p := around()
		p.Funcs[tried].Code = []api.Instr{{Op: o, Site: -1}, {Op: api.OpRet}}
		wantMay(t, fmt.Sprint("no operation: ", o), numbered(p), false)
		p.Funcs[tried].Code = []api.Instr{{Op: api.OpRet}, {Op: o, Site: -1}}
		wantMay(t, fmt.Sprint("no operation at the end: ", o), numbered(p), false)
	}
}

// instruction is one of an operation that may be in the function tried of around, of registers that are 0.
func instruction(o api.Op) api.Instr {
	x := api.Instr{Op: o}
	if o == api.OpClosure {
		x.N, x.L = two, []int{0, 0}
	}
	return x
}

// P10.1: the registers that an instruction names are its function's; A, B, C that name none are as they like.
func TestNewRegisters(t *testing.T) {
	for _, f := range forms() {
		for _, part := range []string{"A", "B", "C"} {
			for _, n := range append(beyond(most), 0, 1, most-1) {
				x := instruction(f.op)
				switch part {
				case "A":
					x.A = n
				case "B":
					x.B = n
				case "C":
					x.C = n
				}
				may := n >= 0 && n < most || !strings.Contains(f.names, part)
				if part == "C" && (f.op == api.OpPost || f.op == api.OpFront) {
					may = n == 0 || n == 1
				}
				wantMay(t, fmt.Sprintf("%s of %d is %d", part, f.op, n), around(x), may)
			}
		}
	}
	for _, n := range append(beyond(most), 0, most-1) {
		for _, l := range [][]int{{n, 0}, {0, n}} {
			x := api.Instr{Op: api.OpClosure, N: two, L: l}
			wantMay(t, fmt.Sprint("cells ", l), around(x), n >= 0 && n < most)
		}
	}
}

// P10.1: each function has registers of its own.
func TestNewRegistersOfEach(t *testing.T) {
	p := around(api.Instr{Op: api.OpMove, A: 5, B: 5})
	p.Funcs[none].Code = []api.Instr{{Op: api.OpRet, A: 1}}
	wantMay(t, "a register that is not named", numbered(p), true)
	p.Funcs[none].Code = []api.Instr{{Op: api.OpZero}, {Op: api.OpRet}}
	wantMay(t, "a register of no registers", numbered(p), false)
	p.Funcs[none].Regs = 1
	wantMay(t, "a register of one", numbered(p), true)
}

// P10.1: what is in L of what is no closure.
func TestNewLists(t *testing.T) {
	for _, f := range forms() {
		for _, l := range [][]int{nil, {}, {0}, {0, 0}} {
			x := instruction(f.op)
			x.L = l
			want := len(l) == 0
			if f.op == api.OpClosure {
				want = len(l) == 2
			}
			wantMay(t, fmt.Sprintf("%d with L %v", f.op, l), around(x), want)
		}
	}
}

// P10.1: what N names is there; N that names nothing is as it likes.
func TestNewNumbers(t *testing.T) {
	counts := map[api.Op]int{
		api.OpLoad: 2, api.OpStore: 2, api.OpNew: 3, api.OpPost: api.MaxDelay + 1, api.OpEnable: 2, api.OpDisable: 2, api.OpJump: 3, api.OpZero: 3, api.OpClosure: 3,
	}
	for _, f := range forms() {
		count, names := counts[f.op]
		for _, n := range append(beyond(count), 0, max(count-1, 0)) {
			x := api.Instr{Op: f.op, N: int64(n)}
			may := !names || n >= 0 && n < count
			switch {
			case f.op == api.OpCell:
				// A type: below 0 a class, of which there are three.
				may = n >= -3
			case f.op == api.OpClosure && (n == two || n == tried):
				continue // these capture
			}
			wantMay(t, fmt.Sprintf("N of %d is %d", f.op, n), around(api.Instr{Op: api.OpConst}, x), may)
		}
	}
	for n, may := range map[int64]bool{-1: true, -2: true, -3: true, -4: false, math.MinInt64: false, -1 << 32: false} {
		wantMay(t, fmt.Sprint("a cell of the type ", n), around(api.Instr{Op: api.OpCell, N: n}), may)
	}
	for _, n := range []int64{tried + 1, 1<<32 + none, math.MaxInt64} {
		wantMay(t, fmt.Sprint("a closure of the function ", n), around(api.Instr{Op: api.OpClosure, N: n}), false)
	}
}

// P10.1: loopers, functions that are named are there.
func TestNewNames(t *testing.T) {
	for what, set := range map[string]func(p *api.Prog, n int){
		"a component's looper": func(p *api.Prog, n int) { p.Comps[1].Looper = n },
		"an event's looper":    func(p *api.Prog, n int) { p.Events[0].Looper = n },
		"a post's looper":      func(p *api.Prog, n int) { p.Funcs[callback].Code[2].C = n },
		"a front post's looper": func(p *api.Prog, n int) {
			p.Funcs[callback].Code[2] = api.Instr{Op: api.OpFront, C: n, Site: p.Funcs[callback].Code[2].Site}
		},
	} {
		for _, n := range append(beyond(2), 0, 1) {
			p := around()
			set(&p, n)
			wantMay(t, fmt.Sprint(what, " ", n), p, n == 0 || n == 1)
		}
	}
	for what, set := range map[string]func(p *api.Prog, n int){
		"a first callback":  func(p *api.Prog, n int) { p.Comps[0].Funcs[api.LifeCreate] = n },
		"a second callback": func(p *api.Prog, n int) { p.Comps[1].Funcs[api.LifeStart] = n },
		"a third callback":  func(p *api.Prog, n int) { p.Comps[1].Funcs[api.LifeStop] = n },
		"a last callback":   func(p *api.Prog, n int) { p.Comps[0].Funcs[api.LifeDestroy] = n },
		"a handler":         func(p *api.Prog, n int) { p.Events[1].Func = n },
		"the main function": func(p *api.Prog, n int) { p.Main = n },
	} {
		for _, n := range append(beyond(5), main, callback, none, two, tried) {
			p := around()
			set(&p, n)
			may := n == main || n == callback || n == none || n < 0 && strings.Contains(what, "callback")
			wantMay(t, fmt.Sprint(what, " ", n), p, may)
		}
	}
}

// P10.1: sites are numbered function by function, and Sites tells them.
func TestNewSites(t *testing.T) {
	for _, c := range []struct {
		what   string
		change func(p *api.Prog)
	}{
		{"a site without a number", func(p *api.Prog) { p.Funcs[main].Code[0].Site = -1 }},
		{"a site with another one's number", func(p *api.Prog) { p.Funcs[main].Code[1].Site = 0 }},
		{"a site whose number is left out", func(p *api.Prog) { p.Funcs[tried].Code[0].Site++ }},
		{"two that changed numbers", func(p *api.Prog) { p.Funcs[main].Code[0].Site, p.Funcs[main].Code[1].Site = 1, 0 }},
		{"a number of no site", func(p *api.Prog) { p.Funcs[tried].Code[1].Site = 0 }},
		{"the next number of no site", func(p *api.Prog) { p.Funcs[tried].Code[1].Site = len(p.Sites) }},
		{"a number below -1", func(p *api.Prog) { p.Funcs[tried].Code[1].Site = -2 }},
		{"a site's number below -1", func(p *api.Prog) { p.Funcs[main].Code[0].Site = -2 }},
		{"a site fewer", func(p *api.Prog) { p.Sites = p.Sites[:len(p.Sites)-1] }},
		{"no sites", func(p *api.Prog) { p.Sites = nil }},
		{"a site more", func(p *api.Prog) { p.Sites = append(p.Sites, api.Site{Func: tried, At: 1}) }},
		{"a site twice", func(p *api.Prog) { p.Sites = append(p.Sites, p.Sites[len(p.Sites)-1]) }},
		{"very many sites", func(p *api.Prog) { p.Sites = append(p.Sites, make([]api.Site, 100000)...) }},
		{"sites that changed places", func(p *api.Prog) { p.Sites[0], p.Sites[1] = p.Sites[1], p.Sites[0] }},
		{"a site of another function", func(p *api.Prog) { p.Sites[2].Func = main }},
		{"a site at another place", func(p *api.Prog) { p.Sites[2].At++ }},
		{"all sites of no number", func(p *api.Prog) {
			for f := range p.Funcs {
				for at := range p.Funcs[f].Code {
					p.Funcs[f].Code[at].Site = -1
				}
			}
			p.Sites = nil
		}},
		{"numbers from 1 on", func(p *api.Prog) {
			for f := range p.Funcs {
				for at := range p.Funcs[f].Code {
					if p.Funcs[f].Code[at].Site >= 0 {
						p.Funcs[f].Code[at].Site++
					}
				}
			}
		}},
	} {
		p := around(api.Instr{Op: api.OpLog}, api.Instr{Op: api.OpLen})
		wantMay(t, "as it is", p, true)
		c.change(&p)
		wantMay(t, c.what, p, false)
	}
}

// spoil changes all that a program has, where it stands.
func spoil(p api.Prog) {
	for i := range p.Loopers {
		p.Loopers[i] += "x"
	}
	for _, c := range p.Classes {
		for i := range c.Fields {
			c.Names[i], c.Fields[i] = "x", 5
		}
	}
	clear(p.Classes)
	clear(p.Globals)
	for _, f := range p.Funcs {
		for _, x := range f.Code {
			clear(x.L)
		}
		clear(f.Code)
	}
	clear(p.Funcs)
	clear(p.Comps)
	clear(p.Events)
	clear(p.Sites)
}

// P10.1: the code is of a copy; what Prog tells is another one; and what is changed of either changes no thread.
func TestNewCopies(t *testing.T) {
	want := around(api.Instr{Op: api.OpNew, A: 1}, api.Instr{Op: api.OpClosure, N: two, L: []int{2, 3}})
	p := alike(want)
	c := coded(t, p)
	x := begun(t, c, tried, 1, 2, 3, 4, 5, 6)
	spoil(p)
	spoil(c.Prog())
	if got := c.Prog(); !reflect.DeepEqual(got, want) {
		t.Errorf("Prog: %+v, want %+v", got, want)
	}
	h := heap.New()
	steps(t, x, h)
	next, _ := x.Next()
	clear(next.L)
	steps(t, x, h)
	spoil(c.Prog())
	wantFrames(t, x, api.Frame{Func: tried, At: 2, Regs: []int64{2, 1, 3, 4, 5, 6}})
	if o, err := h.Object(1); err != api.OK || len(o.Vals) != 3 {
		t.Errorf("the object: %+v, %v", o, err)
	}
	if o, err := h.Object(2); err != api.OK || !slices.Equal(o.Vals, []int64{3, 4}) {
		t.Errorf("the closure: %+v, %v", o, err)
	}
}

// P10.1: the program of no code.
func TestProgOfNone(t *testing.T) {
	var c *step.Code
	if got := c.Prog(); !reflect.DeepEqual(got, api.Prog{}) {
		t.Errorf("Prog of nil: %+v", got)
	}
	if got := new(step.Code).Prog(); !reflect.DeepEqual(got, api.Prog{}) {
		t.Errorf("Prog of a zero one: %+v", got)
	}
}
