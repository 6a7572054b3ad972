package lower

import (
	"fmt"
	"slices"

	"detent/api"
	"detent/names"
	"detent/types"
)

// teller runs tasks one by one, each to its end, and tells what they do with what is shared: once by a tree, once by code.
type teller struct {
	events  []string
	cut     bool
	steps   int
	depth   int
	objects []object
	globals map[int]int64
	tasks   []task
	tokens  int64
}

// object is what was made. Its number is one more than its place.
type object struct {
	kind  string
	of    int // a closure's function
	cells []int64
	vals  []int64
}

// task is a function to be run, its cells, and what 'it' is.
type task struct {
	f     int
	cells []int64
	it    int64
}

type trap struct{}

type enough struct{}

const (
	mostEvents = 1500
	mostSteps  = 20000
)

func (t *teller) tell(line int, what string, l ...int64) {
	if len(t.events) >= mostEvents {
		panic(enough{})
	}
	t.events = append(t.events, fmt.Sprint(line, " ", what, " ", l))
}

// step counts what is done, so that all comes to an end.
func (t *teller) step() {
	if t.steps++; t.steps > mostSteps {
		panic(enough{})
	}
}

func (t *teller) make(line int, o object) int64 {
	t.objects = append(t.objects, o)
	id := int64(len(t.objects))
	t.tell(line, "makes "+o.kind, append([]int64{id, int64(o.of), int64(len(o.vals))}, o.cells...)...)
	return id
}

// part tells where an object holds its nth value; it is a trap if the object is none of that kind, or has none.
func (t *teller) part(id int64, kind string, nth int64) *int64 {
	if id < 1 || id > int64(len(t.objects)) || t.objects[id-1].kind != kind || nth < 0 || nth >= int64(len(t.objects[id-1].vals)) {
		panic(trap{})
	}
	return &t.objects[id-1].vals[nth]
}

func (t *teller) get(line int, id int64, kind string, nth int64) int64 {
	v := *t.part(id, kind, nth)
	t.tell(line, "gets "+kind, id, nth, v)
	return v
}

func (t *teller) set(line int, id int64, kind string, nth, v int64) {
	*t.part(id, kind, nth) = v
	t.tell(line, "sets "+kind, id, nth, v)
}

func (t *teller) array(line int, size int64) int64 {
	if size < 0 || size > api.MaxArray {
		panic(trap{})
	}
	return t.make(line, object{kind: "array", vals: make([]int64, size)})
}

func (t *teller) length(id int64) int64 {
	if id < 1 || id > int64(len(t.objects)) || t.objects[id-1].kind != "array" {
		panic(trap{})
	}
	return int64(len(t.objects[id-1].vals))
}

func (t *teller) load(line int, g int) int64 {
	t.tell(line, "loads", int64(g), t.globals[g])
	return t.globals[g]
}

func (t *teller) store(line int, g int, v int64) {
	t.globals[g] = v
	t.tell(line, "stores", int64(g), v)
}

func (t *teller) closure(id int64) object {
	if id < 1 || id > int64(len(t.objects)) || t.objects[id-1].kind != "closure" {
		panic(trap{})
	}
	return t.objects[id-1]
}

// begin adds a task of a closure, and tells its number.
func (t *teller) begin(line int, what string, id int64, l ...int64) int64 {
	o := t.closure(id)
	if len(t.tasks) > 100 {
		panic(enough{})
	}
	t.tokens++
	t.tasks = append(t.tasks, task{f: o.of, cells: o.cells, it: t.tokens % 3})
	t.tell(line, what, append([]int64{id, t.tokens}, l...)...)
	return t.tokens
}

// call does a call, in which others may be.
func (t *teller) call(line int, id int64, do func(f int, cells []int64)) {
	o := t.closure(id)
	t.tell(line, "calls", id)
	if t.depth == api.MaxFrames {
		panic(trap{})
	}
	t.depth++
	do(o.of, o.cells)
	t.depth--
}

// all runs all tasks, those that come up, too.
func (t *teller) all(run func(x task)) {
	defer func() {
		switch x := recover(); x.(type) {
		case nil:
		case enough:
			t.cut = true
		default:
			panic(x)
		}
	}()
	for i := 0; i < len(t.tasks); i++ {
		t.depth = 1
		t.tell(0, "begins", int64(t.tasks[i].f))
		t.one(t.tasks[i], run)
	}
}

func (t *teller) one(x task, run func(x task)) {
	defer func() {
		switch x := recover(); x.(type) {
		case nil:
		case trap:
			t.tell(0, "trap")
		default:
			panic(x)
		}
	}()
	run(x)
}

// apart tells where two tellers differ; if one was cut, so far as both go.
func apart(a, b *teller) string {
	n := min(len(a.events), len(b.events))
	for i := range n {
		if a.events[i] != b.events[i] {
			return fmt.Sprintf("behind %v: %s, by code %s", a.events[max(0, i-5):i], a.events[i], b.events[i])
		}
	}
	if len(a.events) != len(b.events) && !a.cut && !b.cut {
		return fmt.Sprintf("%d events, by code %d", len(a.events), len(b.events))
	}
	return ""
}

// walker runs a tree, as its words say.
type walker struct {
	*teller
	t api.Tree
	n api.Names
	l []api.Type
}

// walk is a call: its locals (of one that is captured the cell), by their twigs.
type walk struct {
	walker
	locals map[int]int64
	it     int64
}

type over struct{}

func tellTree(x api.Tree, n api.Names, l []api.Type) *teller {
	w := walker{teller: &teller{globals: map[int]int64{}}, t: x, n: n, l: l}
	w.tasks = []task{{f: n.Main}}
	for f, named := range n.Funcs {
		switch x.Twigs[named.Twig].Kind {
		case api.TwigLife, api.TwigEvent:
			w.tasks = append(w.tasks, task{f: f, it: int64(f)})
		}
	}
	w.all(func(x task) { w.function(x.f, x.cells, x.it) })
	return w.teller
}

func (w walker) function(f int, cells []int64, it int64) {
	defer func() {
		if x := recover(); x != nil && x != any(over{}) {
			panic(x)
		}
	}()
	c := walk{walker: w, locals: map[int]int64{}, it: it}
	for i, local := range w.n.Funcs[f].Captures {
		c.locals[local] = cells[i]
	}
	kids := w.t.Twigs[w.n.Funcs[f].Twig].Kids
	c.block(kids[len(kids)-1])
}

func (c walk) isCaptured(local int) bool {
	return slices.Contains(names.Captured(c.n), local)
}

func (c walk) block(i int) {
	for _, k := range c.t.Twigs[i].Kids {
		c.statement(k)
	}
}

func (c walk) statement(i int) {
	c.step()
	w := c.t.Twigs[i]
	switch w.Kind {
	case api.TwigVar:
		v := c.value(w.Kids[1])
		if c.isCaptured(i) {
			cell := c.make(w.Line, object{kind: "cell", of: int(c.l[i]), vals: []int64{0}})
			c.set(w.Line, cell, "cell", 0, v)
			v = cell
		}
		c.locals[i] = v
	case api.TwigSet:
		set := c.variable(w.Kids[0], w.Line)
		set(c.value(w.Kids[1]))
	case api.TwigCall:
		c.call(w.Line, c.value(w.Kids[0]), func(f int, cells []int64) { c.function(f, cells, c.it) })
	case api.TwigCancel:
		c.tell(w.Line, "cancels", c.value(w.Kids[0]))
	case api.TwigJoin:
		c.tell(w.Line, "joins", c.value(w.Kids[0]))
	case api.TwigLog:
		c.tell(w.Line, "logs", c.value(w.Kids[0]))
	case api.TwigPost:
		c.goes(i, c.begin(w.Line, "posts", c.value(w.Kids[0]), int64(c.n.Means[i].N), w.N))
	case api.TwigSpawn:
		c.goes(i, c.begin(w.Line, "spawns", c.value(w.Kids[0])))
	case api.TwigEnable:
		c.tell(w.Line, "enables", int64(c.n.Means[i].N))
	case api.TwigDisable:
		c.tell(w.Line, "disables", int64(c.n.Means[i].N))
	case api.TwigIf:
		if c.value(w.Kids[0]) != 0 {
			c.block(w.Kids[1])
		} else {
			c.block(w.Kids[2])
		}
	case api.TwigWhile:
		for c.value(w.Kids[0]) != 0 {
			c.step()
			c.block(w.Kids[1])
		}
	case api.TwigReturn:
		panic(over{})
	}
}

func (c walk) goes(i int, v int64) {
	if w := c.t.Twigs[i]; len(w.Kids) == 2 {
		c.variable(w.Kids[1], w.Line)(v)
	}
}

func (c walk) member(dot int) int64 {
	w := c.t.Twigs[dot]
	nth, _ := types.Member(c.t, c.n, c.l[w.Kids[0]], w.Text)
	return int64(nth)
}

func (c walk) variable(i, line int) func(v int64) {
	w := c.t.Twigs[i]
	switch w.Kind {
	case api.TwigDot:
		id := c.value(w.Kids[0])
		return func(v int64) { c.set(line, id, "object", c.member(i), v) }
	case api.TwigIndex:
		id, nth := c.value(w.Kids[0]), c.value(w.Kids[1])
		return func(v int64) { c.set(line, id, "array", nth, v) }
	}
	m := c.n.Means[i]
	switch {
	case m.Kind == api.MeanGlobal:
		return func(v int64) { c.store(line, m.N, v) }
	case c.isCaptured(m.N):
		return func(v int64) { c.set(line, c.locals[m.N], "cell", 0, v) }
	}
	return func(v int64) { c.locals[m.N] = v }
}

func (c walk) value(i int) int64 {
	w := c.t.Twigs[i]
	kid := func(nth int) int64 { return c.value(w.Kids[nth]) }
	switch w.Kind {
	case api.TwigNumber:
		return w.N
	case api.TwigIt:
		return c.it
	case api.TwigUse:
		return c.used(i)
	case api.TwigDot:
		return c.get(w.Line, kid(0), "object", c.member(i))
	case api.TwigIndex:
		id, nth := kid(0), kid(1)
		return c.get(w.Line, id, "array", nth)
	case api.TwigOp:
		a, b := kid(0), kid(1)
		return map[string]int64{"+": a + b, "-": a - b, "*": a * b, "<": truth(a < b), "==": truth(a == b)}[w.Text]
	case api.TwigNew:
		class := c.n.Means[i].N
		return c.make(w.Line, object{kind: "object", of: class, vals: make([]int64, len(c.t.Twigs[c.n.Classes[class]].Kids))})
	case api.TwigArr:
		return c.array(w.Line, kid(0))
	case api.TwigLen:
		return c.length(kid(0))
	case api.TwigFn:
		f := slices.IndexFunc(c.n.Funcs, func(f api.NamedFunc) bool { return f.Twig == i })
		o := object{kind: "closure", of: f}
		for _, local := range c.n.Funcs[f].Captures {
			o.cells = append(o.cells, c.locals[local])
		}
		return c.make(w.Line, o)
	}
	return 0
}

func (c walk) used(i int) int64 {
	w, m := c.t.Twigs[i], c.n.Means[i]
	switch {
	case m.Kind == api.MeanGlobal:
		return c.load(w.Line, m.N)
	case m.Kind == api.MeanFunc:
		return c.make(w.Line, object{kind: "closure", of: m.N})
	case c.isCaptured(m.N):
		return c.get(w.Line, c.locals[m.N], "cell", 0)
	}
	return c.locals[m.N]
}

func truth(b bool) int64 {
	if b {
		return 1
	}
	return 0
}

// runner runs code, as api says.
type runner struct {
	*teller
	p api.Prog
}

func tellCode(p api.Prog) *teller {
	r := runner{teller: &teller{globals: map[int]int64{}}, p: p}
	r.tasks = []task{{f: p.Main}}
	var others []int
	for _, c := range p.Comps {
		others = append(others, c.Funcs[:]...)
	}
	for _, e := range p.Events {
		others = append(others, e.Func)
	}
	slices.Sort(others)
	for _, f := range others {
		if f >= 0 {
			r.tasks = append(r.tasks, task{f: f, it: int64(f)})
		}
	}
	r.all(func(x task) { r.function(x.f, x.cells, x.it) })
	return r.teller
}

func (r runner) function(f int, cells []int64, it int64) {
	regs := make([]int64, r.p.Funcs[f].Regs)
	copy(regs, cells)
	at := 0
	for {
		r.step()
		x := r.p.Funcs[f].Code[at]
		at++
		switch x.Op {
		case api.OpJump:
			at = int(x.N)
		case api.OpZero:
			if regs[x.A] == 0 {
				at = int(x.N)
			}
		case api.OpRet:
			return
		case api.OpCall:
			r.call(x.Line, regs[x.A], func(f int, cells []int64) { r.function(f, cells, it) })
		default:
			if v, is := r.own(x, regs, it); is {
				regs[x.A] = v
			} else if v, is := r.shared(x, regs); is {
				regs[x.A] = v
			}
		}
	}
}

// own does what touches nothing but registers: what A is then, and was it such a one?
func (r runner) own(x api.Instr, regs []int64, it int64) (int64, bool) {
	switch x.Op {
	case api.OpConst:
		return x.N, true
	case api.OpIt:
		return it, true
	case api.OpMove:
		return regs[x.B], true
	case api.OpAdd:
		return regs[x.B] + regs[x.C], true
	case api.OpSub:
		return regs[x.B] - regs[x.C], true
	case api.OpMul:
		return regs[x.B] * regs[x.C], true
	case api.OpLess:
		return truth(regs[x.B] < regs[x.C]), true
	case api.OpSame:
		return truth(regs[x.B] == regs[x.C]), true
	case api.OpLen:
		return r.length(regs[x.B]), true
	}
	return 0, false
}

// shared does all else: what A is then, if it is anything else.
func (r runner) shared(x api.Instr, regs []int64) (int64, bool) {
	switch x.Op {
	case api.OpLoad:
		return r.load(x.Line, int(x.N)), true
	case api.OpStore:
		r.store(x.Line, int(x.N), regs[x.A])
	case api.OpCell:
		return r.make(x.Line, object{kind: "cell", of: int(x.N), vals: []int64{0}}), true
	case api.OpGet:
		return r.get(x.Line, regs[x.B], "cell", 0), true
	case api.OpPut:
		r.set(x.Line, regs[x.A], "cell", 0, regs[x.B])
	case api.OpNew:
		return r.make(x.Line, object{kind: "object", of: int(x.N), vals: make([]int64, len(r.p.Classes[x.N].Fields))}), true
	case api.OpField:
		return r.get(x.Line, regs[x.B], "object", x.N), true
	case api.OpSetField:
		r.set(x.Line, regs[x.A], "object", x.N, regs[x.B])
	case api.OpArray:
		return r.array(x.Line, regs[x.B]), true
	case api.OpElem:
		return r.get(x.Line, regs[x.B], "array", regs[x.C]), true
	case api.OpSetElem:
		r.set(x.Line, regs[x.A], "array", regs[x.B], regs[x.C])
	case api.OpClosure:
		o := object{kind: "closure", of: int(x.N)}
		for _, cell := range x.L {
			o.cells = append(o.cells, regs[cell])
		}
		return r.make(x.Line, o), true
	case api.OpPost:
		return r.begin(x.Line, "posts", regs[x.B], int64(x.C), x.N), true
	case api.OpFront:
		return r.begin(x.Line, "posts", regs[x.B], int64(x.C), -1), true
	case api.OpSpawn:
		return r.begin(x.Line, "spawns", regs[x.B]), true
	case api.OpCancel:
		r.tell(x.Line, "cancels", regs[x.A])
	case api.OpJoin:
		r.tell(x.Line, "joins", regs[x.A])
	case api.OpLog:
		r.tell(x.Line, "logs", regs[x.A])
	case api.OpEnable:
		r.tell(x.Line, "enables", x.N)
	case api.OpDisable:
		r.tell(x.Line, "disables", x.N)
	}
	return 0, false
}
