package machine_test

import (
	"fmt"
	"math"
	"math/rand"
	"slices"
	"testing"

	"detent/api"
	"detent/machine"
	"detent/step"
)

// pick tells one of some.
func pick[T any](r *rand.Rand, l ...T) T { return l[r.Intn(len(l))] }

// grown is a random program that may be.
func grown(r *rand.Rand) api.Prog {
	p := around()
	p.Loopers = make([]string, 1+r.Intn(3))
	p.Funcs = nil
	for range 2 + r.Intn(4) {
		captures := r.Intn(3) / 2
		p.Funcs = append(p.Funcs, api.Func{Captures: captures, Regs: 6 + captures})
	}
	p.Funcs[0].Captures = 0
	p.Main = 0
	for i := range p.Events {
		p.Events[i] = api.Event{Looper: r.Intn(len(p.Loopers)), On: r.Intn(2) == 0, Func: task(r, p)}
	}
	for i := range p.Comps {
		p.Comps[i].Looper = r.Intn(len(p.Loopers))
		for which := range api.Lives {
			p.Comps[i].Funcs[which] = pick(r, -1, task(r, p), task(r, p))
		}
	}
	for f := range p.Funcs {
		x := &p.Funcs[f]
		n := 4 + r.Intn(14)
		// What is made first of all is a closure, so that there is something to be made of it.
		x.Code = append(x.Code, grownClosure(r, p, *x, x.Captures))
		if r.Intn(5) == 0 {
			// It joins somebody, perhaps itself.
			x.Code = append(x.Code, konst(x.Captures+1, int64(1+r.Intn(4))), join(x.Captures+1))
		}
		for len(x.Code) < n-1 {
			x.Code = append(x.Code, grownInstr(r, p, *x, n))
		}
		x.Code = append(x.Code, pick(r, ret(), ret(), jump(int64(r.Intn(n)))))
	}
	return numbered(p)
}

// task is a function that captures nothing.
func task(r *rand.Rand, p api.Prog) int {
	for {
		if f := r.Intn(len(p.Funcs)); p.Funcs[f].Captures == 0 {
			return f
		}
	}
}

func grownClosure(r *rand.Rand, p api.Prog, f api.Func, a int) api.Instr {
	x := closure(a, r.Intn(len(p.Funcs)))
	for range p.Funcs[x.N].Captures {
		x.L = append(x.L, r.Intn(f.Regs))
	}
	return x
}

// grownInstr is one of a function that will have n. The register of the closure that is made first is seldom another thing's.
func grownInstr(r *rand.Rand, p api.Prog, f api.Func, n int) api.Instr {
	first := f.Captures
	register := func() int { return (first + 1 + r.Intn(f.Regs-1)) % f.Regs }
	closed := pick(r, first, first, first, first, first, r.Intn(f.Regs))
	x := api.Instr{A: register(), B: register(), C: register(), N: int64(r.Intn(8))}
	switch r.Intn(15) {
	case 0, 1:
		return post(x.A, closed, r.Intn(len(p.Loopers)), pick[int64](r, 0, 0, 1, 2, api.MaxDelay))
	case 2:
		return front(x.A, closed, r.Intn(len(p.Loopers)), x.N)
	case 3:
		return spawn(x.A, closed)
	case 4:
		return pick(r, join(x.A), cancel(x.A))
	case 5:
		return pick(r, enable, disable)(int64(r.Intn(len(p.Events))))
	case 6, 7:
		return pick(r, load, store)(x.A, int64(r.Intn(len(p.Globals))))
	case 8:
		return logs(x.A)
	case 9:
		return konst(x.A, pick[int64](r, 1, 2, 3, 4, 5, 6, -1, 1<<32+1, math.MinInt64))
	case 10:
		return pick(r, jump, func(to int64) api.Instr { return api.Instr{Op: api.OpZero, A: x.A, N: to} })(int64(r.Intn(n)))
	case 11:
		return pick(r, grownClosure(r, p, f, x.A), api.Instr{Op: api.OpCall, A: closed}, ret())
	}
	x.Op = pick(r, api.OpCell, api.OpGet, api.OpPut, api.OpNew, api.OpField, api.OpSetField, api.OpArray, api.OpElem, api.OpSetElem, api.OpLen, api.OpAdd, api.OpSub, api.OpMul, api.OpLess, api.OpSame, api.OpMove, api.OpIt)
	if x.Op == api.OpNew {
		x.N = 0
	}
	return x
}

// twin is a machine, and what it must be like.
type twin struct {
	m    *machine.Machine
	w    *teller
	seen int // how many of its marks were looked at
}

func (z *twin) copy() *twin { return &twin{m: z.m.Copy(), w: z.w.apart(), seen: z.seen} }

// do does an entry, and tells what it was.
func (z *twin) do(t *testing.T, kind byte, at int, n int64) string {
	t.Helper()
	want := z.w.do(kind, at, n)
	got := api.OK
	switch kind {
	case 'r':
		got = z.m.Run(at)
	case 'w':
		got = z.m.Work(at)
	case 't':
		got = z.m.Tick(n)
	case 'i':
		got = z.m.Inject(at, n)
	case 'l':
		got = z.m.Life(at, int(n))
	}
	if got != want {
		t.Fatalf("%c %d %d: %v, want %v (%s)", kind, at, n, got, want, z.w.why)
	}
	return z.w.why
}

// look holds a machine against what it must be like.
func (z *twin) look(t *testing.T) {
	t.Helper()
	m, w := z.m, z.w
	wantLooks(t, m, looks{full: w.full, can: w.can(), ended: w.ended(), blocked: w.blocked()})
	if m.Full() != w.full || m.Now() != w.now || !slices.Equal(m.Globals(), w.globals) || !slices.Equal(m.Log(), w.log) || !m.Heap().Same(w.heap) {
		t.Errorf("full %v, now %d, globals %v, log %v, want %v, %d, %v, %v", m.Full(), m.Now(), m.Globals(), m.Log(), w.full, w.now, w.globals, w.log)
	}
	if got := m.Marks(z.seen); !slices.Equal(got, w.marks[z.seen:]) {
		t.Errorf("marks from %d on\n%+v, want\n%+v", z.seen, got, w.marks[z.seen:])
	}
	z.seen = len(w.marks)
	for i, x := range m.Tasks() {
		if i >= len(w.tasks) || x != w.tasks[i].Task {
			t.Errorf("task %d: %+v", i+1, x)
		}
		if task := i + 1; m.Waits(task) != w.waits(task) || m.Site(task) != w.site(task) {
			t.Errorf("task %d: Waits %d, Site %d, want %d, %d", task, m.Waits(task), m.Site(task), w.waits(task), w.site(task))
		}
	}
	if n := len(m.Tasks()); n != len(w.tasks) {
		t.Errorf("%d tasks, want %d", n, len(w.tasks))
	}
}

// settle does steps as long as some are possible, but not too many.
func (z *twin) settle(t *testing.T) {
	t.Helper()
	for i := 0; z.w.can() && i < 60; i++ {
		for looper := range z.w.p.Loopers {
			z.do(t, 'r', looper, 0)
		}
		for i := range z.w.tasks {
			z.do(t, 'w', i+1, 0)
		}
	}
}

// wantSound holds that loopers run one task at a time, each to its end, that none begins twice, nor behind its cancel, and that who waits where nothing goes on waits for one who does.
func wantSound(t *testing.T, m *machine.Machine) {
	t.Helper()
	tasks, begun, over, running := m.Tasks(), map[int]int{}, map[int]int{}, map[int]int{}
	for i, x := range m.Marks(0) {
		looper := tasks[x.Task-1].Looper
		if x.Kind == api.MarkBegin {
			begun[x.Task]++
			if looper >= 0 && running[looper] != 0 {
				t.Errorf("mark %d: %+v begins beside %d", i, x, running[looper])
			}
			running[looper] = x.Task
		}
		if begun[x.Task] != 1 || over[x.Task] != 0 || looper >= 0 && running[looper] != x.Task {
			t.Errorf("mark %d: %+v: begun %d times, over %d", i, x, begun[x.Task], over[x.Task])
		}
		if x.Kind == api.MarkEnd {
			over[x.Task]++
			running[looper] = 0
		}
	}
	for i, x := range tasks {
		if got := [2]int{begun[i+1], over[i+1]}; got != [...][2]int{api.TaskWaits: {}, api.TaskRuns: {1, 0}, api.TaskOver: {1, 1}, api.TaskCancelled: {}}[x.State] {
			t.Errorf("task %d: %v of %+v", i+1, got, x)
		}
	}
	if blocked := m.Blocked(); !m.Can() && !m.Full() {
		for _, task := range blocked {
			if !slices.Contains(blocked, m.Waits(task)) {
				t.Errorf("%d waits for %d, who is not blocked", task, m.Waits(task))
			}
		}
	}
}

// anyEntry is a random entry.
func anyEntry(r *rand.Rand, z *twin) (byte, int, int64) {
	switch r.Intn(16) {
	case 0:
		return 't', 0, pick[int64](r, 0, -1, 1, 1, 1, 2, 3, 1000, api.MaxNow, api.MaxNow-z.w.now, math.MaxInt64)
	case 1:
		return 'i', r.Intn(4) - 1, int64(r.Intn(5) - 1)
	case 2:
		return 'l', r.Intn(4) - 1, int64(r.Intn(6) - 1)
	case 3, 4, 5, 6, 7:
		return 'w', r.Intn(len(z.w.tasks) + 2), 0
	}
	return 'r', r.Intn(len(z.w.p.Loopers)+1) - r.Intn(8)/7, 0
}

// fit is a random entry that is most often not skipped.
func fit(r *rand.Rand, z *twin) (byte, int, int64) {
	for range 4 {
		kind, at, n := anyEntry(r, z)
		if kind != 'r' && kind != 'w' || kind == 'r' && z.w.possible(at, 0) != 0 || kind == 'w' && at != 0 && z.w.possible(0, at) != 0 {
			return kind, at, n
		}
	}
	return anyEntry(r, z)
}

// P11.1 to P11.5: machines of random programs, and their copies, are as the chapter's words tell, behind each entry.
func TestRandomMachines(t *testing.T) {
	t.Parallel()
	r := rand.New(rand.NewSource(11))
	seen := map[string]int{}
	for range 1200 {
		p := grown(r)
		if _, err := step.New(p); err != api.OK {
			t.Fatalf("%+v may not be", p)
		}
		all := []*twin{{m: made(t, p), w: newTeller(p)}}
		for range 150 {
			at := r.Intn(len(all))
			if r.Intn(60) == 0 && len(all) < 4 {
				all = append(all, all[at].copy())
			}
			kind, entry, n := fit(r, all[at])
			seen[all[at].do(t, kind, entry, n)]++
			all[at].look(t)
			if t.Failed() {
				t.Fatalf("of %+v", p)
			}
		}
		for _, z := range all {
			seen[fmt.Sprint("blocked ", min(len(z.w.blocked()), 2), " can ", z.w.can())]++
			z.settle(t)
			z.seen = 0
			z.look(t)
			wantSound(t, z.m)
			wantNothingMore(t, z.m)
			for _, x := range z.w.tasks {
				seen[fmt.Sprint("state ", x.State)]++
				seen[fmt.Sprint("trap ", x.Trap)]++
			}
			for _, x := range z.w.marks {
				seen[fmt.Sprint("mark ", x.Kind)]++
			}
			seen[fmt.Sprint("blocked ", min(len(z.w.blocked()), 2), " can ", z.w.can())]++
			seen[fmt.Sprint("ended ", z.w.ended())]++
		}
		if t.Failed() {
			t.Fatalf("of %+v", p)
		}
	}
	wants := []string{"r", "w", "t", "i", "l", "begins", "skip: r", "skip: w", "skip: t", "skip: i", "skip: l", "blocked 1 can true", "blocked 1 can false", "blocked 2 can true", "ended true", "trap 1", "trap 2", "trap 3"}
	for kind := range 7 {
		wants = append(wants, fmt.Sprint("mark ", kind+1))
	}
	for state := range 4 {
		wants = append(wants, fmt.Sprint("state ", state+1))
	}
	for _, want := range wants {
		if seen[want] == 0 {
			t.Errorf("it never came to: %s", want)
		}
	}
}

// P11.2, P11.3, P11.5: the same of long runs, up to each of the limits.
func TestRandomMachinesToTheirLimits(t *testing.T) {
	t.Parallel()
	r := rand.New(rand.NewSource(111))
	seen := map[string]int{}
	for range 300 {
		p := grown(r)
		z := &twin{m: made(t, p), w: newTeller(p)}
		for i := 0; i < 60000; i++ {
			kind, at, n := fit(r, z)
			if kind == 'i' || kind == 'l' {
				// Few of these, so that tasks are not what is full first.
				if r.Intn(100) > 0 {
					continue
				}
			}
			why := z.do(t, kind, at, n)
			seen[why]++
			if z.w.ended() || !z.w.can() && i > 2000 {
				i += 100
			}
			if r.Intn(400) == 0 || z.w.full {
				z.look(t)
			}
			if why == "full already" {
				break
			}
			if t.Failed() {
				t.Fatalf("of %+v", p)
			}
		}
		z.seen = 0
		z.look(t)
		wantSound(t, z.m)
		if t.Failed() {
			t.Fatalf("of %+v", p)
		}
	}
	for _, want := range []string{"full: tasks", "full: objects", "full: log", "full: steps", "full already"} {
		if seen[want] == 0 {
			t.Errorf("it never came to: %s", want)
		}
	}
}

// P11.5, P0.6: the same program and script come to the same, entries that are skipped, and those of a full machine, too; without what is skipped, as well.
func TestRandomScriptsTwice(t *testing.T) {
	t.Parallel()
	r := rand.New(rand.NewSource(1111))
	for range 300 {
		p := grown(r)
		a, b, few := made(t, p), made(t, p), made(t, p)
		z := &twin{m: a, w: newTeller(p)}
		full := r.Intn(4) == 0
		for range 200 {
			if full && len(a.Tasks()) < api.MaxTasks {
				// It comes to be full soon, if an event is on.
				a.Inject(0, 0)
				b.Inject(0, 0)
				few.Inject(0, 0)
			}
			kind, at, n := anyEntry(r, z)
			word := fmt.Sprintf("%c%d:%d", kind, at, n)
			if kind == 't' {
				word = fmt.Sprintf("t%d", n)
			}
			was := entry(t, a, word)
			if got := entry(t, b, word); got != was {
				t.Fatalf("%s: %v, then %v", word, was, got)
			}
			if was != api.ErrSkip {
				entry(t, few, word)
			}
		}
		if !a.Same(b) || !a.Same(few) || tell(a) != tell(b) || tell(a) != tell(few) {
			t.Fatalf("%s, and\n%s, and\n%s", tell(a), tell(b), tell(few))
		}
	}
}
