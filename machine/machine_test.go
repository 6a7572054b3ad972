package machine_test

import (
	"fmt"
	"math"
	"slices"
	"strings"
	"testing"

	"detent/api"
	"detent/machine"
)

// P11.1: a new machine's first task waits, and nothing else is there.
func TestNew(t *testing.T) {
	m := made(t, around(konst(0, 1)))
	wantTasks(t, m, api.Task{Kind: api.TaskMain, Func: tried, State: api.TaskWaits, Mark: -1})
	wantLooks(t, m, looks{can: true})
	wantMarks(t, m, 0, "")
	if m.Now() != 0 || !slices.Equal(m.Globals(), []int64{0, 0}) || len(m.Log()) > 0 || m.Heap().Count() != 0 {
		t.Errorf("%d, %v, %v, %d objects", m.Now(), m.Globals(), m.Log(), m.Heap().Count())
	}
	if m.Site(1) != -1 || m.Waits(1) != 0 {
		t.Errorf("Site %d, Waits %d", m.Site(1), m.Waits(1))
	}
	p := around()
	p.Main = callback
	wantTasks(t, made(t, p), api.Task{Kind: api.TaskMain, Func: callback, State: api.TaskWaits, Mark: -1})
	p = api.Prog{Loopers: []string{""}, Funcs: []api.Func{{Code: []api.Instr{{Op: api.OpRet, Site: -1}}}}}
	m = behind(t, p, "r0*2")
	wantMarks(t, m, 0, "1 begins, 1 ends")
	if len(m.Globals()) > 0 {
		t.Errorf("globals %v", m.Globals())
	}
}

// P11.1: of a program that may not be there is no machine.
func TestNewOfNone(t *testing.T) {
	for what, change := range map[string]func(p *api.Prog){
		"nothing":           func(p *api.Prog) { *p = api.Prog{} },
		"no looper":         func(p *api.Prog) { p.Loopers = nil },
		"a looper too many": func(p *api.Prog) { p.Loopers = make([]string, api.MaxLoopers+1) },
		"a global too many": func(p *api.Prog) { p.Globals = make([]api.Global, api.MaxGlobals+1) },
		"a function too many": func(p *api.Prog) {
			p.Funcs = append(p.Funcs, slices.Repeat([]api.Func{p.Funcs[idle]}, api.MaxFuncs)...)
		},
		"main is none":                 func(p *api.Prog) { p.Main = len(p.Funcs) },
		"main is below the first one":  func(p *api.Prog) { p.Main = -1 },
		"main captures":                func(p *api.Prog) { p.Main = pair },
		"a handler captures":           func(p *api.Prog) { p.Events[0].Func = pair },
		"a callback captures":          func(p *api.Prog) { p.Comps[0].Funcs[1] = pair },
		"an event of no looper":        func(p *api.Prog) { p.Events[0].Looper = 2 },
		"a component of no looper":     func(p *api.Prog) { p.Comps[0].Looper = -1 },
		"a register too many":          func(p *api.Prog) { p.Funcs[tried].Code[0].A = 8 },
		"a post to no looper":          func(p *api.Prog) { p.Funcs[tried].Code[2].C = 2 },
		"a post too late":              func(p *api.Prog) { p.Funcs[tried].Code[2].N = api.MaxDelay + 1 },
		"a closure of too few cells":   func(p *api.Prog) { p.Funcs[tried].Code[1].N = pair },
		"a closure of too many cells":  func(p *api.Prog) { p.Funcs[tried].Code[1].L = []int{0} },
		"code that ends with no end":   func(p *api.Prog) { p.Funcs[idle].Code[0] = enable(0) },
		"a site's number is not there": func(p *api.Prog) { p.Sites = p.Sites[1:] },
		"a site is numbered otherwise": func(p *api.Prog) { p.Funcs[tried].Code[2].Site = 5 },
	} {
		p := around(konst(0, 1), closure(1, idle), post(2, 1, 1, api.MaxDelay))
		made(t, p)
		change(&p)
		if m, err := machine.New(p); m != nil || err != api.ErrArg {
			t.Errorf("%s: %v, %v", what, m, err)
		}
	}
}

// P11.1, P11.2: what was handed in is not kept: that it is changed afterwards is no matter. Neither is it changed.
func TestNewKeepsNothing(t *testing.T) {
	code := []api.Instr{closure(0, idle), post(1, 0, 1, 3), konst(2, 9), store(2, 1), {Op: api.OpCell, A: 4, N: 1}, closure(3, pair, 4, 4), spawn(5, 3), {Op: api.OpNew, A: 6, N: 0}, {Op: api.OpSetField, A: 6, B: 2, N: 1}}
	script := "r0*5 i0:4 l0:0 r0*5 w5*2 t3 r1*8"
	p := around(code...)
	want := behind(t, around(code...), script)
	m := made(t, p)
	if tell(made(t, p)) != tell(made(t, around(code...))) || !made(t, p).Same(made(t, around(code...))) {
		t.Error("New changes what is handed in")
	}
	for f := range p.Funcs {
		for at := range p.Funcs[f].Code {
			clear(p.Funcs[f].Code[at].L)
			p.Funcs[f].Code[at] = api.Instr{Op: api.OpLog, A: 100, N: 100}
		}
		p.Funcs[f] = api.Func{}
	}
	clear(p.Loopers)
	for i := range p.Classes {
		clear(p.Classes[i].Names)
		clear(p.Classes[i].Fields)
	}
	clear(p.Classes)
	clear(p.Globals)
	clear(p.Comps)
	clear(p.Events)
	clear(p.Sites)
	does(t, m, script)
	if !m.Same(want) || tell(m) != tell(want) {
		t.Errorf("a machine of a program that was changed goes on unlike: %s", tell(m))
	}
}

// P11.2: what each instruction does, with its marks in their order.
func TestInstructions(t *testing.T) {
	for _, c := range []struct {
		what    string
		code    []api.Instr
		script  string
		marks   string
		states  string
		globals []int64
		log     []int64
	}{
		{
			what:   "nothing but the end",
			script: "r0*2",
			marks:  "1 begins, 1 ends", states: "over",
		}, {
			what:   "globals",
			code:   []api.Instr{konst(0, 5), store(0, 1), load(1, 1), load(2, 0), store(1, 0), logs(2), {Op: api.OpAdd, A: 0, B: 0, C: 1}, store(0, 1)},
			script: "r0*10",
			marks:  "1 begins, 1 writes global 1 at 0, 1 reads global 1 at 1, 1 reads global 0 at 2, 1 writes global 0 at 3, 1 writes log at 4, 1 writes global 1 at 5, 1 ends",
			states: "over", globals: []int64{5, 10}, log: []int64{0},
		}, {
			what:   "the log",
			code:   []api.Instr{konst(0, -5), logs(0), logs(1), {Op: api.OpIt, A: 0}, logs(0), konst(7, math.MinInt64), logs(7)},
			script: "r0*9",
			marks:  "1 begins, 1 writes log at 0, 1 writes log at 1, 1 writes log at 2, 1 writes log at 3, 1 ends",
			states: "over", log: []int64{-5, 0, 0, math.MinInt64},
		}, {
			what:   "a post to another looper, at once",
			code:   []api.Instr{closure(0, handler), post(1, 0, 1, 0), logs(1), logs(0)},
			script: "r0*3 r1 r0 r1*2 r0 r1 r0",
			marks:  "1 begins, 1 posts 2, 2 begins, 2 writes token 2 at 1, 1 writes log at 2, 2 writes global 1 at 4, 1 writes log at 3, 2 ends, 1 ends",
			states: "over over", log: []int64{2, 1},
		}, {
			what:   "a post to the looper itself: it begins when what runs is over",
			code:   []api.Instr{closure(0, callback), post(1, 0, 0, 0), post(2, 0, 0, 0), logs(2)},
			script: "r0*6 r0*4",
			marks:  "1 begins, 1 posts 2, 1 posts 3, 1 writes log at 3, 1 ends, 2 begins, 2 writes token 2 at 1, 2 ends, 3 begins, 3 writes token 3 at 2, 3 ends",
			states: "over over over", log: []int64{3},
		}, {
			what:   "posts later, by when they are due; then as they were made",
			code:   []api.Instr{closure(0, callback), post(1, 0, 1, 5), post(1, 0, 1, 3), post(1, 0, 1, 5), post(1, 0, 1, 4)},
			script: "r0*6 t5 r1*8",
			marks:  "1 begins, 1 posts 2, 1 posts 3, 1 posts 4, 1 posts 5, 3 begins, 3 writes token 3 at 2, 3 ends, 5 begins, 5 writes token 5 at 4, 5 ends, 2 begins, 2 writes token 2 at 1, 2 ends, 4 begins, 4 writes token 4 at 3, 4 ends",
			states: "runs over over over over",
		}, {
			what:   "posts in front: the last one first, whatever N is, ahead of what is due already",
			code:   []api.Instr{closure(0, callback), post(1, 0, 1, 0), front(2, 0, 1, 0), front(3, 0, 1, 7), logs(2), logs(3)},
			script: "r0*8 r1*6",
			marks:  "1 begins, 1 posts 2, 1 posts 3, 1 posts 4, 1 writes log at 4, 1 writes log at 5, 1 ends, 4 begins, 4 writes token 4 at 3, 4 ends, 3 begins, 3 writes token 3 at 2, 3 ends, 2 begins, 2 writes token 2 at 1, 2 ends",
			states: "over over over over", log: []int64{3, 4},
		}, {
			what:   "a post is cancelled that waits, twice",
			code:   []api.Instr{closure(0, callback), post(1, 0, 1, 0), cancel(1), cancel(1)},
			script: "r0*6",
			marks:  "1 begins, 1 posts 2, 1 writes token 2 at 2, 1 writes token 2 at 3, 1 ends",
			states: "over cancelled",
		}, {
			what:   "one in front is cancelled, and one that is not due; others are not",
			code:   []api.Instr{closure(0, callback), post(1, 0, 1, 9), front(2, 0, 1, 0), front(3, 0, 1, 0), post(4, 0, 1, 9), cancel(3), cancel(1)},
			script: "r0*9 t9 r1*4",
			marks:  "1 begins, 1 posts 2, 1 posts 3, 1 posts 4, 1 posts 5, 1 writes token 4 at 5, 1 writes token 2 at 6, 1 ends, 3 begins, 3 writes token 3 at 2, 3 ends, 5 begins, 5 writes token 5 at 4, 5 ends",
			states: "over cancelled over cancelled over",
		}, {
			what:   "a post is cancelled that runs",
			code:   []api.Instr{closure(0, handler), post(1, 0, 1, 0), cancel(1)},
			script: "r0*3 r1*2 r0 r1*2 r0",
			marks:  "1 begins, 1 posts 2, 2 begins, 2 writes token 2 at 1, 1 writes token 2 at 2, 2 writes global 1 at 3, 2 ends, 1 ends",
			states: "over over",
		}, {
			what:   "a post is cancelled that is over",
			code:   []api.Instr{closure(0, callback), post(1, 0, 1, 0), cancel(1)},
			script: "r0*3 r1*2 r0*2",
			marks:  "1 begins, 1 posts 2, 2 begins, 2 writes token 2 at 1, 2 ends, 1 writes token 2 at 2, 1 ends",
			states: "over over",
		}, {
			what:   "events: what is off is turned on, just once; what is on is turned off, and on",
			code:   []api.Instr{enable(1), enable(1), disable(1), disable(1), enable(1), enable(0), disable(0), enable(0)},
			script: "r0*10",
			marks:  "1 begins, 1 writes flag 1 at 0, 1 enables 1, 1 writes flag 1 at 1, 1 writes flag 1 at 2, 1 writes flag 1 at 3, 1 writes flag 1 at 4, 1 enables 1, 1 writes flag 0 at 5, 1 writes flag 0 at 6, 1 writes flag 0 at 7, 1 enables 0, 1 ends",
			states: "over",
		}, {
			what:   "a worker, beside",
			code:   []api.Instr{closure(0, handler), spawn(1, 0), logs(1)},
			script: "r0*3 w2*2 r0 w2 r0 w2",
			marks:  "1 begins, 1 spawns 2, 2 begins, 1 writes log at 2, 2 writes global 1 at 3, 1 ends, 2 ends",
			states: "over over", log: []int64{2},
		}, {
			what:   "a worker is joined that is over, twice",
			code:   []api.Instr{closure(0, idle), spawn(1, 0), join(1), join(1)},
			script: "r0*3 w2*2 r0*3",
			marks:  "1 begins, 1 spawns 2, 2 begins, 2 ends, 1 joins 2, 1 joins 2, 1 ends",
			states: "over over",
		}, {
			what:   "a worker is joined that has a fault",
			code:   []api.Instr{closure(0, fail), spawn(1, 0), join(1)},
			script: "r0*3 w2*2 r0*2",
			marks:  "1 begins, 1 spawns 2, 2 begins, 2 ends, 1 joins 2, 1 ends",
			states: "over over:1",
		}, {
			what:   "objects: what steps access is marked, what they make is not",
			code:   []api.Instr{{Op: api.OpNew, A: 0}, konst(1, 2), {Op: api.OpSetField, A: 0, B: 1, N: 1}, {Op: api.OpField, A: 2, B: 0, N: 1}, {Op: api.OpArray, A: 3, B: 1}, konst(4, 1), {Op: api.OpSetElem, A: 3, B: 4, C: 1}, {Op: api.OpElem, A: 5, B: 3, C: 4}, {Op: api.OpLen, A: 6, B: 3}, logs(2), logs(5), logs(6)},
			script: "r0*14",
			marks:  "1 begins, 1 writes field 1.1 at 1, 1 reads field 1.1 at 2, 1 writes element 2.1 at 4, 1 reads element 2.1 at 5, 1 writes log at 6, 1 writes log at 7, 1 writes log at 8, 1 ends",
			states: "over", log: []int64{2, 2, 2},
		}, {
			what:   "a call: its end is not the task's",
			code:   []api.Instr{{Op: api.OpCell, A: 0, N: 1}, {Op: api.OpCell, A: 1, N: 1}, konst(2, 6), {Op: api.OpPut, A: 1, B: 2}, closure(3, pair, 1, 0), {Op: api.OpCall, A: 3}, {Op: api.OpGet, A: 4, B: 0}, logs(4)},
			script: "r0*12 r0*1",
			marks:  "1 begins, 1 writes cell 2 at 2, 1 reads cell 2 at 8, 1 writes cell 1 at 9, 1 reads cell 1 at 5, 1 writes log at 6, 1 ends",
			states: "over", log: []int64{6},
		}, {
			what:   "a closure's cells are its task's first registers: of posts, in front and not, and of workers",
			code:   []api.Instr{{Op: api.OpCell, A: 0, N: 1}, {Op: api.OpCell, A: 1, N: 1}, konst(2, 6), {Op: api.OpPut, A: 0, B: 2}, closure(3, pair, 0, 1), closure(4, pair, 1, 0), post(5, 3, 1, 0), front(6, 4, 1, 0), spawn(7, 3)},
			script: "r0*11 r1*4 w4*4 r1*4",
			marks: "1 begins, 1 writes cell 1 at 2, 1 posts 2, 1 posts 3, 1 spawns 4, 1 ends, 3 begins, 3 writes token 3 at 6, 3 reads cell 2 at 9, 3 writes cell 1 at 10, 3 ends, " +
				"4 begins, 4 reads cell 1 at 9, 4 writes cell 2 at 10, 4 ends, 2 begins, 2 writes token 2 at 5, 2 reads cell 1 at 9, 2 writes cell 2 at 10, 2 ends",
			states: "over over over over",
		},
	} {
		m := behind(t, around(c.code...), c.script)
		if c.globals == nil {
			c.globals = []int64{0, 0}
		}
		if !slices.Equal(m.Globals(), c.globals) || !slices.Equal(m.Log(), c.log) || states(m) != c.states {
			t.Errorf("%s: globals %v, log %v, %s", c.what, m.Globals(), m.Log(), states(m))
		}
		wantMarks(t, m, 0, c.marks)
		wantNothingMore(t, m)
		if t.Failed() {
			t.Fatal(c.what)
		}
	}
}

// The chapter's example.
func TestExample(t *testing.T) {
	m := behind(t, around(konst(0, 7), store(0, 0)), "r0*4")
	wantMarks(t, m, 0, "1 begins, 1 writes global 0 at 0, 1 ends")
	wantLooks(t, m, looks{ended: true})
	p := around(konst(0, 7))
	p.Loopers, p.Comps, p.Events = p.Loopers[:1], nil, nil
	skips(t, made(t, p), "r1")
}

// P11.2: what the machine's instructions ask for that is not there is a fault: nothing is marked but the end, and nothing is done.
func TestFaults(t *testing.T) {
	// 1 is main, 2 a post, 3 a worker, 4 an event's task, 5 a component's; the closure is the object 1, a cell 2, an array 3.
	ahead := []api.Instr{closure(0, idle), post(1, 0, 1, 9), spawn(2, 0), {Op: api.OpCell, A: 3, N: 1}, konst(4, 1), {Op: api.OpArray, A: 3, B: 4}}
	wrong := []int64{0, -1, 6, 7, 256, 1 << 31, 1 << 32, 1<<32 + 1, 1<<32 + 2, 1<<32 + 3, -1 << 32, math.MaxInt64, math.MinInt64}
	for _, c := range []struct {
		what string
		x    api.Instr
		bad  []int64
		good []int64
	}{
		{"OpPost", post(6, 5, 0, 0), append(wrong, 2, 3, 4, 5), []int64{1}},
		{"OpFront", front(6, 5, 0, 0), append(wrong, 2, 3, 4, 5), []int64{1}},
		{"OpSpawn", spawn(6, 5), append(wrong, 2, 3, 4, 5), []int64{1}},
		{"OpCancel", cancel(5), append(wrong, 1, 3, 4, 5), []int64{2}},
		{"OpJoin", join(5), append(wrong, 1, 2, 4, 5), []int64{3}},
	} {
		for _, n := range append(c.bad, c.good...) {
			m := behind(t, around(append(ahead, konst(5, n), c.x)...), "r0*5 w3*2 i0:1 l0:0 r0*3")
			from, tasks := len(m.Marks(0)), m.Tasks()
			does(t, m, "r0")
			if slices.Contains(c.good, n) {
				if m.Tasks()[0].State != api.TaskRuns || len(m.Marks(from)) != 1 {
					t.Errorf("%s of %d: %+v", c.what, n, m.Tasks()[0])
				}
				continue
			}
			tasks[0].State, tasks[0].Trap = api.TaskOver, api.TrapNull
			wantMarks(t, m, from, "1 ends")
			wantTasks(t, m, tasks...)
			if t.Failed() {
				t.Fatalf("%s of %d", c.what, n)
			}
		}
	}
}

// P11.2: a task's fault is its own: all else goes on.
func TestFaultsAreTheirTasks(t *testing.T) {
	for _, c := range []struct {
		what string
		trap api.Trap
		code []api.Instr
	}{
		{"a cell of nothing", api.TrapNull, []api.Instr{{Op: api.OpPut}}},
		{"an element that there is not", api.TrapIndex, []api.Instr{{Op: api.OpArray, A: 5, B: 6}, {Op: api.OpElem, A: 5, B: 5, C: 6}}},
		{"a size", api.TrapSize, []api.Instr{konst(5, 65), {Op: api.OpArray, A: 5, B: 5}}},
		{"a call too many", api.TrapDepth, []api.Instr{{Op: api.OpCall, A: 3}}},
		{"a cancel of nothing", api.TrapNull, []api.Instr{cancel(6)}},
	} {
		p := around(append([]api.Instr{closure(0, handler), post(1, 0, 0, 0), post(1, 0, 1, 0), spawn(2, 0), closure(3, idle)}, c.code...)...)
		if c.trap == api.TrapDepth {
			// It calls itself.
			p.Funcs[idle].Regs = 1
			p.Funcs[idle].Code = []api.Instr{closure(0, idle), {Op: api.OpCall}, ret()}
			p = numbered(p)
		}
		m := made(t, p)
		for m.Tasks()[0].State != api.TaskOver {
			does(t, m, "r0")
		}
		if got := m.Tasks()[0].Trap; got != c.trap {
			t.Errorf("%s: %v, want %v", c.what, got, c.trap)
		}
		from := len(m.Marks(0))
		wantMarks(t, m, from-1, "1 ends")
		does(t, m, "r0 r1 w4 r0*3 r1*3 w4*3 i0:8 r1*4")
		if got := states(m); got != fmt.Sprintf("over:%d over over over over", c.trap) {
			t.Errorf("%s: %s", c.what, got)
		}
		if !strings.HasPrefix(marks(m, from), "2 begins, 2 writes token 2 at 1, 3 begins, 3 writes token 3 at 2, 4 begins, 2 writes global 1 at ") {
			t.Errorf("%s: %s", c.what, marks(m, from))
		}
		if !slices.Equal(m.Globals(), []int64{0, 8}) {
			t.Errorf("%s: globals %v", c.what, m.Globals())
		}
		wantLooks(t, m, looks{ended: true})
	}
}
