package step_test

import (
	"math"
	"math/rand"
	"reflect"
	"slices"
	"testing"

	"detent/api"
	"detent/heap"
	"detent/step"
)

// told is a thread by the chapter's words alone, and teller what all threads of a program share.
type told struct {
	frames []api.Frame
	trap   api.Trap
}

type teller struct {
	p       api.Prog
	objects []api.Object
}

func copied(l []api.Frame) []api.Frame {
	l = slices.Clone(l)
	for i := range l {
		l[i].Regs = slices.Clone(l[i].Regs)
	}
	return l
}

func (w *teller) begin(f int, cells []int64) api.Frame {
	regs := make([]int64, w.p.Funcs[f].Regs)
	copy(regs, cells)
	return api.Frame{Func: f, Regs: regs}
}

// step tells what a step answers, and does it.
func (w *teller) step(x *told, task int, it int64) (api.Ask, api.Errno) {
	if len(x.frames) == 0 || x.trap != api.TrapNone {
		return api.Ask{}, api.ErrNone
	}
	f := &x.frames[len(x.frames)-1]
	i := w.p.Funcs[f.Func].Code[f.At]
	if forms()[i.Op-1].shared {
		return w.ask(i, f.Regs), api.OK
	}
	var access []api.Access
	err := api.OK
	switch i.Op {
	case api.OpJump:
		f.At = int(i.N) - 1
	case api.OpZero:
		if f.Regs[i.A] == 0 {
			f.At = int(i.N) - 1
		}
	case api.OpRet:
		x.frames = x.frames[:len(x.frames)-1]
	case api.OpCall:
		x.trap = w.call(x, f.Regs[i.A])
		f = &x.frames[len(x.frames)-1]
		if x.trap == api.TrapNone {
			f = &x.frames[len(x.frames)-2]
		}
	case api.OpCell, api.OpNew, api.OpArray, api.OpClosure:
		x.trap, err = w.make(i, f.Regs, task)
	case api.OpGet, api.OpPut, api.OpField, api.OpSetField, api.OpElem, api.OpSetElem:
		access, x.trap = w.access(i, f.Regs)
	default:
		f.Regs[i.A], x.trap = w.value(i, f.Regs, it)
	}
	if err == api.OK && x.trap == api.TrapNone {
		f.At++
	}
	return api.Ask{Accesses: access}, err
}

func (w *teller) ask(i api.Instr, regs []int64) api.Ask {
	ask := api.Ask{Op: i.Op, Site: i.Site, N: i.N}
	switch i.Op {
	case api.OpPost, api.OpFront:
		ask.Looper = i.C
		ask.V = regs[i.B]
	case api.OpSpawn:
		ask.V = regs[i.B]
	case api.OpLoad, api.OpEnable, api.OpDisable:
	default:
		ask.V = regs[i.A]
	}
	return ask
}

// done tells what the machine's instruction that is next does to a thread.
func (w *teller) done(x *told, n int64) api.Errno {
	if len(x.frames) == 0 || x.trap != api.TrapNone {
		return api.ErrNone
	}
	f := &x.frames[len(x.frames)-1]
	i := w.p.Funcs[f.Func].Code[f.At]
	if !forms()[i.Op-1].shared {
		return api.ErrNone
	}
	if i.Op == api.OpLoad || i.Op == api.OpPost || i.Op == api.OpFront || i.Op == api.OpSpawn {
		f.Regs[i.A] = n
	}
	f.At++
	return api.OK
}

// object tells an object of a kind; nil: there is none.
func (w *teller) object(id int64, kind api.ObjKind) *api.Object {
	if id < 1 || id > int64(len(w.objects)) || w.objects[id-1].Kind != kind {
		return nil
	}
	return &w.objects[id-1]
}

func (w *teller) call(x *told, id int64) api.Trap {
	o := w.object(id, api.ObjClosure)
	if o == nil || o.Of < 0 || o.Of >= len(w.p.Funcs) || w.p.Funcs[o.Of].Captures != len(o.Vals) {
		return api.TrapNull
	}
	if len(x.frames) == 32 {
		return api.TrapDepth
	}
	x.frames = append(x.frames, w.begin(o.Of, o.Vals))
	return api.TrapNone
}

func (w *teller) make(i api.Instr, regs []int64, task int) (api.Trap, api.Errno) {
	o := api.Object{Of: int(i.N), Site: i.Site, By: task}
	switch i.Op {
	case api.OpCell:
		o.Kind, o.Vals = api.ObjCell, []int64{0}
	case api.OpNew:
		o.Kind, o.Vals = api.ObjPlain, make([]int64, len(w.p.Classes[i.N].Fields))
	case api.OpArray:
		if regs[i.B] < 0 || regs[i.B] > 64 {
			return api.TrapSize, api.OK
		}
		o.Kind, o.Of, o.Vals = api.ObjArray, 0, make([]int64, regs[i.B])
	case api.OpClosure:
		o.Kind = api.ObjClosure
		for _, r := range i.L {
			o.Vals = append(o.Vals, regs[r])
		}
	}
	if len(w.objects) == 1024 {
		return api.TrapNone, api.ErrFull
	}
	for _, other := range w.objects {
		if other.By == task {
			o.Nth++
		}
	}
	w.objects = append(w.objects, o)
	regs[i.A] = int64(len(w.objects))
	return api.TrapNone, api.OK
}

func (w *teller) access(i api.Instr, regs []int64) ([]api.Access, api.Trap) {
	var o *api.Object
	var at int64
	write := i.Op == api.OpPut || i.Op == api.OpSetField || i.Op == api.OpSetElem
	id, value := regs[i.B], i.A
	if write {
		id, value = regs[i.A], i.B
	}
	loc := api.Loc{A: int(id)}
	missing := api.TrapNull
	switch i.Op {
	case api.OpGet, api.OpPut:
		o, loc.Kind = w.object(id, api.ObjCell), api.LocCell
	case api.OpField, api.OpSetField:
		o, loc.Kind, at = w.object(id, api.ObjPlain), api.LocField, i.N
	default:
		o, loc.Kind, at, missing = w.object(id, api.ObjArray), api.LocElem, regs[i.C], api.TrapIndex
		if write {
			at, value = regs[i.B], i.C
		}
	}
	switch {
	case o == nil:
		return nil, api.TrapNull
	case at < 0 || at >= int64(len(o.Vals)):
		return nil, missing
	case write:
		o.Vals[at] = regs[value]
	default:
		regs[value] = o.Vals[at]
	}
	loc.B = int(at)
	return []api.Access{{Site: i.Site, Loc: loc, Write: write}}, api.TrapNone
}

// value tells what the register A is behind an instruction that touches nothing else: what it was, behind a fault.
func (w *teller) value(i api.Instr, regs []int64, it int64) (int64, api.Trap) {
	one := map[bool]int64{true: 1}
	switch i.Op {
	case api.OpConst:
		return i.N, 0
	case api.OpMove:
		return regs[i.B], 0
	case api.OpAdd:
		return regs[i.B] + regs[i.C], 0
	case api.OpSub:
		return regs[i.B] - regs[i.C], 0
	case api.OpMul:
		return regs[i.B] * regs[i.C], 0
	case api.OpLess:
		return one[regs[i.B] < regs[i.C]], 0
	case api.OpSame:
		return one[regs[i.B] == regs[i.C]], 0
	case api.OpIt:
		return it, 0
	}
	if o := w.object(regs[i.B], api.ObjArray); o != nil {
		return int64(len(o.Vals)), 0
	}
	return regs[i.A], api.TrapNull
}

// pick tells one of some.
func pick[T any](r *rand.Rand, l ...T) T { return l[r.Intn(len(l))] }

func value(r *rand.Rand) int64 {
	if r.Intn(12) > 0 {
		return int64(r.Intn(9))
	}
	return pick[int64](r, -1, 63, 64, 65, 1<<32, 1<<32+1, math.MaxInt64, math.MinInt64)
}

// grown is a random program that may be.
func grown(r *rand.Rand) api.Prog {
	p := around()
	p.Funcs, p.Comps, p.Events = nil, nil, p.Events[1:]
	for f := range 2 + r.Intn(4) {
		x := api.Func{Captures: r.Intn(3)}
		if f == 0 {
			x.Captures = 0
		}
		x.Regs = x.Captures + r.Intn(5)
		p.Funcs = append(p.Funcs, x)
	}
	p.Events[0].Func = 0
	for f := range p.Funcs {
		x := &p.Funcs[f]
		n := 1 + r.Intn(10)
		for range n - 1 {
			x.Code = append(x.Code, grownInstr(r, p, *x, n))
		}
		if n > 2 && x.Regs > 0 && r.Intn(4) == 0 {
			// It calls one like itself first of all.
			a := r.Intn(x.Regs)
			x.Code[0] = api.Instr{Op: api.OpClosure, A: a, N: int64(f), L: slices.Repeat([]int{a}, x.Captures)}
			x.Code[1] = api.Instr{Op: api.OpCall, A: a}
		}
		x.Code = append(x.Code, api.Instr{Op: pick(r, api.OpRet, api.OpJump), N: int64(r.Intn(n))})
	}
	return numbered(p)
}

// grownInstr is one of a function that will have n.
func grownInstr(r *rand.Rand, p api.Prog, f api.Func, n int) api.Instr {
	if f.Regs == 0 {
		return api.Instr{Op: pick(r, api.OpEnable, api.OpDisable, api.OpJump), N: 0}
	}
	register := func() int { return r.Intn(f.Regs) }
	x := api.Instr{Op: forms()[r.Intn(len(forms()))].op, A: register(), B: register(), C: register(), N: value(r), Line: r.Intn(4)}
	if r.Intn(4) == 0 {
		x.Op = pick(r, api.OpClosure, api.OpCall, api.OpArray, api.OpElem, api.OpField, api.OpConst)
	}
	switch x.Op {
	case api.OpClosure:
		x.N = int64(r.Intn(len(p.Funcs)))
		for range p.Funcs[x.N].Captures {
			x.L = append(x.L, register())
		}
	case api.OpLoad, api.OpStore:
		x.N = int64(r.Intn(len(p.Globals)))
	case api.OpNew:
		x.N = int64(r.Intn(len(p.Classes)))
	case api.OpCell:
		x.N = int64(r.Intn(4) - len(p.Classes))
	case api.OpPost, api.OpFront:
		x.C, x.N = r.Intn(len(p.Loopers)), int64(r.Intn(9))
	case api.OpEnable, api.OpDisable:
		x.N = 0
	case api.OpJump, api.OpZero:
		x.N = int64(r.Intn(n))
	}
	return x
}

// run is threads of one program, with what they must be like, and their heap.
type run struct {
	c     *step.Code
	h     *heap.Heap
	w     *teller
	twins []*twin
	seen  map[any]int // how often there was what
}

type twin struct {
	x *step.Thread
	w *told
}

// change does something to one of the threads.
func (u *run) change(t *testing.T, r *rand.Rand) {
	t.Helper()
	if len(u.twins) == 0 || r.Intn(20) == 0 && len(u.twins) < 5 {
		f := r.Intn(len(u.w.p.Funcs))
		cells := make([]int64, u.w.p.Funcs[f].Captures)
		for i := range cells {
			cells[i] = value(r)
		}
		u.twins = append(u.twins, &twin{begun(t, u.c, f, cells...), &told{frames: []api.Frame{u.w.begin(f, cells)}}})
		return
	}
	at := r.Intn(len(u.twins))
	z := u.twins[at]
	if r.Intn(40) == 0 {
		u.twins[r.Intn(len(u.twins))] = &twin{z.x.Copy(), &told{frames: copied(z.w.frames), trap: z.w.trap}}
	}
	if z.x.Over() && r.Intn(3) > 0 {
		u.twins = slices.Delete(u.twins, at, at+1)
		return
	}
	if i, _ := z.x.Next(); r.Intn(8) == 0 || step.Shared(i.Op) && r.Intn(2) == 0 {
		n := value(r)
		want := u.w.done(z.w, n)
		if got := z.x.Done(n); got != want {
			t.Fatalf("Done of %+v: %v, want %v", i, got, want)
		}
		return
	}
	u.step(t, r, z)
}

func (u *run) step(t *testing.T, r *rand.Rand, z *twin) {
	t.Helper()
	i, _ := z.x.Next()
	task, it := r.Intn(3), value(r)
	want, wantErr := u.w.step(z.w, task, it)
	ask, err := z.x.Step(u.h, task, it)
	if !slices.Equal(ask.Accesses, want.Accesses) || err != wantErr {
		t.Fatalf("%+v: %+v, %v, want %+v, %v", i, ask, err, want, wantErr)
	}
	if ask.Accesses, want.Accesses = nil, nil; !reflect.DeepEqual(ask, want) {
		t.Fatalf("%+v asks %+v, want %+v", i, ask, want)
	}
	u.seen[i.Op]++
	u.seen[err]++
	u.seen[z.w.trap]++
}

// look holds all threads and the heap against what they must be.
func (u *run) look(t *testing.T) {
	t.Helper()
	for _, z := range u.twins {
		wantFrames(t, z.x, z.w.frames...)
		over := len(z.w.frames) == 0 || z.w.trap != api.TrapNone
		if z.x.Trap() != z.w.trap || z.x.Over() != over {
			t.Errorf("trap %v, over %v, want %v, %v", z.x.Trap(), z.x.Over(), z.w.trap, over)
		}
		for _, y := range u.twins {
			same := z.w.trap == y.w.trap && slices.EqualFunc(z.w.frames, y.w.frames, func(a, b api.Frame) bool { return reflect.DeepEqual(a, b) })
			if z.x.Same(y.x) != same {
				t.Errorf("Same: %v, of %+v and %+v", !same, z.w, y.w)
			}
		}
	}
	if u.h.Count() != len(u.w.objects) {
		t.Errorf("%d objects, want %d", u.h.Count(), len(u.w.objects))
	}
	for i, want := range u.w.objects {
		got, err := u.h.Object(int64(i + 1))
		if vals := slices.Equal(got.Vals, want.Vals); !vals || err != api.OK {
			t.Errorf("the object %d: %+v, %v, want %+v", i+1, got, err, want)
		}
		if got.Vals, want.Vals = nil, nil; !reflect.DeepEqual(got, want) {
			t.Errorf("the object %d: %+v, want %+v", i+1, got, want)
		}
	}
}

// fill lays objects at the end, so that there is room for one at most.
func (u *run) fill(t *testing.T, r *rand.Rand) {
	t.Helper()
	for room := r.Intn(2); u.h.Count() < api.MaxObjects-room; {
		if _, err := u.h.Make(api.ObjArray, 0, 1, 5, 99); err != api.OK {
			t.Fatal(err)
		}
		last, _ := u.h.Object(int64(u.h.Count()))
		u.w.objects = append(u.w.objects, last)
	}
}

// P10.1, P10.2, P10.3, P10.4: threads of random programs, and their copies, are as the chapter's words tell, after each step.
func TestRandomThreads(t *testing.T) {
	t.Parallel()
	r := rand.New(rand.NewSource(10))
	seen := map[any]int{}
	for range 1500 {
		p := grown(r)
		u := &run{c: coded(t, p), h: heap.New(), w: &teller{p: p}, seen: seen}
		for i := range 130 {
			u.change(t, r)
			if i == 120 && r.Intn(10) == 0 {
				u.fill(t, r)
			}
			u.look(t)
			if t.Failed() {
				t.Fatalf("of %+v", p)
			}
		}
	}
	for _, want := range []any{api.OK, api.ErrFull, api.ErrNone, api.TrapNull, api.TrapIndex, api.TrapSize, api.TrapDepth} {
		if seen[want] == 0 {
			t.Errorf("%T %v never came", want, want)
		}
	}
	for _, f := range forms() {
		if seen[f.op] == 0 {
			t.Errorf("the operation %d never came", f.op)
		}
	}
}
