package step

import (
	"detent/api"
	"detent/heap"
)

// doing is a step while it is done: the frame that runs, its instruction, what Step was given, and what it answers.
type doing struct {
	thread *Thread
	frame  *api.Frame
	x      api.Instr
	heap   *heap.Heap
	task   int
	it     int64
	next   int // where the frame goes on behind it
	ask    api.Ask
	err    api.Errno
}

// deeds tells what each instruction does that is a thread's own.
func deeds() map[api.Op]func(d *doing) {
	return map[api.Op]func(d *doing){
		api.OpConst:    func(d *doing) { d.set(d.x.N) },
		api.OpMove:     func(d *doing) { d.set(d.b()) },
		api.OpAdd:      func(d *doing) { d.set(d.b() + d.c()) },
		api.OpSub:      func(d *doing) { d.set(d.b() - d.c()) },
		api.OpMul:      func(d *doing) { d.set(d.b() * d.c()) },
		api.OpLess:     func(d *doing) { d.set(truth(d.b() < d.c())) },
		api.OpSame:     func(d *doing) { d.set(truth(d.b() == d.c())) },
		api.OpIt:       func(d *doing) { d.set(d.it) },
		api.OpCell:     func(d *doing) { d.make(api.ObjCell, int(d.x.N), 1) },
		api.OpGet:      func(d *doing) { d.get(d.cell(d.b())) },
		api.OpPut:      func(d *doing) { d.put(d.cell(d.a()), d.b()) },
		api.OpNew:      object,
		api.OpField:    func(d *doing) { d.get(d.field(d.b())) },
		api.OpSetField: func(d *doing) { d.put(d.field(d.a()), d.b()) },
		api.OpArray:    array,
		api.OpElem:     func(d *doing) { d.get(d.element(d.b(), d.c())) },
		api.OpSetElem:  func(d *doing) { d.put(d.element(d.a(), d.b()), d.c()) },
		api.OpLen:      func(d *doing) { d.set(int64(d.size(d.b()))) },
		api.OpClosure:  closure,
		api.OpCall:     call,
		api.OpJump:     func(d *doing) { d.next = int(d.x.N) },
		api.OpZero:     zero,
		api.OpRet:      func(d *doing) { d.thread.frames = d.thread.frames[:len(d.thread.frames)-1] },
	}
}

// do does it. A trap ends it ahead of all that it changes.
func (d *doing) do() {
	defer func() {
		if value := recover(); value != nil {
			d.thread.trap = value.(api.Trap)
		}
	}()
	d.thread.code.deeds[d.x.Op](d)
	if d.err == api.OK {
		d.frame.At = d.next
	}
}

// must ends it by a trap, if something is not so.
func must(so bool, trap api.Trap) {
	if !so {
		panic(trap)
	}
}

func object(d *doing) {
	class := int(d.x.N)
	d.make(api.ObjPlain, class, len(d.thread.code.prog.Classes[class].Fields))
}

func array(d *doing) {
	size := d.b()
	must(size >= 0 && size <= api.MaxArray, api.TrapSize)
	d.make(api.ObjArray, 0, int(size))
}

func closure(d *doing) {
	var cells []int64
	for _, register := range d.x.L {
		cells = append(cells, d.frame.Regs[register])
	}
	d.made(d.heap.Closure(int(d.x.N), cells, d.x.Site, d.task))
}

func call(d *doing) {
	t := d.thread
	x, _ := d.heap.Object(d.a())
	must(x.Kind == api.ObjClosure && t.code.takes(x.Of, len(x.Vals)), api.TrapNull)
	must(len(t.frames) < api.MaxFrames, api.TrapDepth)
	t.frames = append(t.frames, t.code.frame(x.Of, x.Vals))
}

func zero(d *doing) {
	if d.a() == 0 {
		d.next = int(d.x.N)
	}
}

func (d *doing) a() int64 { return d.frame.Regs[d.x.A] }

func (d *doing) b() int64 { return d.frame.Regs[d.x.B] }

func (d *doing) c() int64 { return d.frame.Regs[d.x.C] }

func (d *doing) set(n int64) { d.frame.Regs[d.x.A] = n }

// make makes an object whose values are 0.
func (d *doing) make(kind api.ObjKind, of, size int) {
	d.made(d.heap.Make(kind, of, size, d.x.Site, d.task))
}

// made tells that an object was made, if the heap was not full.
func (d *doing) made(id int, err api.Errno) {
	if err != api.OK {
		d.err = err
		return
	}
	d.set(int64(id))
}

// cell tells where a cell holds its value.
func (d *doing) cell(id int64) api.Loc {
	must(d.heap.Is(id, api.ObjCell), api.TrapNull)
	return api.Loc{Kind: api.LocCell, A: int(id)}
}

// field tells where an object holds the field that the instruction names.
func (d *doing) field(id int64) api.Loc {
	must(d.heap.Is(id, api.ObjPlain) && among(d.x.N, d.heap.Len(id)), api.TrapNull)
	return api.Loc{Kind: api.LocField, A: int(id), B: int(d.x.N)}
}

// element tells where an array holds an element.
func (d *doing) element(id, i int64) api.Loc {
	must(among(i, d.size(id)), api.TrapIndex)
	return api.Loc{Kind: api.LocElem, A: int(id), B: int(i)}
}

// size tells how many elements an array has.
func (d *doing) size(id int64) int {
	must(d.heap.Is(id, api.ObjArray), api.TrapNull)
	return d.heap.Len(id)
}

// get reads the value that stands where it is told.
func (d *doing) get(l api.Loc) {
	n, _ := d.heap.Get(int64(l.A), l.B)
	d.set(n)
	d.access(l, false)
}

// put writes a value to where it is told.
func (d *doing) put(l api.Loc, n int64) {
	d.heap.Set(int64(l.A), l.B, n)
	d.access(l, true)
}

func (d *doing) access(l api.Loc, write bool) {
	d.ask.Accesses = []api.Access{{Site: d.x.Site, Loc: l, Write: write}}
}

func truth(is bool) int64 {
	if is {
		return 1
	}
	return 0
}
