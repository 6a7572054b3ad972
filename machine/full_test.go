package machine_test

import (
	"fmt"
	"math"
	"slices"
	"testing"

	"detent/api"
	"detent/machine"
)

// nothing is each kind of entry, of each kind of number.
const nothing = "r0 r1 r2 r-1 w1 w2 w3 w0 w-1 w999 t1 t0 t-1 i0:1 i1:1 i2:1 i-1:1 l0:0 l0:1 l0:4 l1:0 l2:0 l-1:0"

// wantFull holds that an entry makes a machine full, that it does nothing else, and that nothing happens any more.
func wantFull(t *testing.T, m *machine.Machine, word string) {
	t.Helper()
	was := m.Copy()
	if was.Full() {
		t.Fatal("it is full already")
	}
	for i, word := range append([]string{word}, words(nothing)...) {
		if err := entry(t, m, word); err != api.ErrFull {
			t.Errorf("entry %d, %s: %v, want ErrFull", i, word, err)
		}
	}
	wantLooks(t, m, looks{full: true, blocked: was.Blocked()})
	if !m.Full() || m.Same(was) || !slices.Equal(m.Tasks(), was.Tasks()) || !slices.Equal(m.Marks(0), was.Marks(0)) ||
		!slices.Equal(m.Log(), was.Log()) || !slices.Equal(m.Globals(), was.Globals()) || !m.Heap().Same(was.Heap()) || m.Now() != was.Now() {
		t.Errorf("%s makes it full, but does something else, too", word)
	}
	for task := range len(m.Tasks()) + 2 {
		if m.Site(task) != was.Site(task) || m.Waits(task) != was.Waits(task) {
			t.Errorf("task %d: Site %d, Waits %d, want %d, %d", task, m.Site(task), m.Waits(task), was.Site(task), was.Waits(task))
		}
	}
	if c := m.Copy(); !c.Full() || !c.Same(m) || c.Tick(1) != api.ErrFull {
		t.Error("a copy of a full one is not full")
	}
}

// filled lays tasks of an event that is on at the end, till there are so many.
func filled(t *testing.T, m *machine.Machine, tasks int) {
	t.Helper()
	for len(m.Tasks()) < tasks {
		does(t, m, "i0:0")
	}
}

// P11.2: just as many tasks as may be, and one more, by each thing that makes one.
func TestFullOfTasks(t *testing.T) {
	for _, c := range []struct {
		what, script, word string
		x                  api.Instr
	}{
		{"an event", "", "i0:4", logs(0)},
		{"an event that code turned on", "r0*3", "i1:4", enable(1)},
		{"a callback", "", "l0:0", logs(0)},
		{"a later callback", "l0:0 l0:1", "l0:2", logs(0)},
		{"a post", "r0*2", "r0", post(1, 0, 1, 0)},
		{"a post in front", "r0*2", "r0", front(1, 0, 1, 0)},
		{"a worker", "r0*2", "r0", spawn(1, 0)},
	} {
		m := behind(t, around(closure(0, idle), c.x), c.script)
		filled(t, m, api.MaxTasks-1)
		c1 := m.Copy()
		does(t, c1, c.word)
		if len(c1.Tasks()) != api.MaxTasks {
			t.Errorf("%s: %d tasks", c.what, len(c1.Tasks()))
		}
		wantLooks(t, c1, looks{can: true})
		does(t, m, "i0:0")
		wantFull(t, m, c.word)
		if t.Failed() {
			t.Fatal(c.what)
		}
	}
}

// P11.2: what makes no task goes on though there are as many as may be; what is skipped is skipped, and a fault is one.
func TestFullOfTasksButNoneMore(t *testing.T) {
	m := made(t, around(closure(0, idle), logs(0), api.Instr{Op: api.OpCall, A: 0}, spawn(1, 7)))
	does(t, m, "l0:0")
	filled(t, m, api.MaxTasks)
	skips(t, m, "l0:0 l0:2 l1:1 i1:0 i2:0 r2 w2 t0")
	// Neither has the one start nor the other one a create.
	does(t, m, "l0:1 l1:0 t3 r0*6")
	skips(t, m, "r0 l0:3")
	if got := m.Tasks()[0]; got.State != api.TaskOver || got.Trap != api.TrapNull {
		t.Errorf("%+v", got)
	}
	wantLooks(t, m, looks{can: true})
	// All of them come to their end.
	does(t, m, "r1*2")
	for range api.MaxTasks - 2 {
		does(t, m, "r1*4")
	}
	wantLooks(t, m, looks{ended: true})
	wantFull(t, m, "l0:2")
}

// P11.2: just as many values in the log as may be, and one more.
func TestFullOfLog(t *testing.T) {
	m := behind(t, around(konst(0, 3), logs(0), jump(1)), "r0*2")
	for range api.MaxLog {
		wantLooks(t, m, looks{can: true})
		does(t, m, "r0*2")
	}
	if !slices.Equal(m.Log(), slices.Repeat([]int64{3}, api.MaxLog)) || len(m.Marks(0)) != api.MaxLog+1 {
		t.Errorf("%d values, %d marks", len(m.Log()), len(m.Marks(0)))
	}
	// Others go on, so long as they log nothing.
	does(t, m, "i0:1 r1*4 t1")
	wantFull(t, m, "r0")
}

// P11.2: just as many objects as the heap has room for, and one more, of each kind.
func TestFullOfObjects(t *testing.T) {
	for _, x := range []api.Instr{{Op: api.OpCell, A: 1, N: 1}, {Op: api.OpNew, A: 1}, {Op: api.OpArray, A: 1, B: 2}, closure(1, idle)} {
		m := behind(t, around(x, jump(0)), "r0")
		for range api.MaxObjects {
			does(t, m, "r0*2")
		}
		if m.Heap().Count() != api.MaxObjects {
			t.Errorf("%d objects", m.Heap().Count())
		}
		does(t, m, "i0:1 r1*4 t1")
		wantFull(t, m, "r0")
	}
	// A size that may not be is a fault, though there is no room.
	m := made(t, around(konst(2, -1), konst(3, api.MaxObjects), konst(4, 1),
		api.Instr{Op: api.OpCell, A: 1, N: 1}, api.Instr{Op: api.OpSub, A: 3, B: 3, C: 4}, api.Instr{Op: api.OpZero, A: 3, N: 7}, jump(3),
		api.Instr{Op: api.OpArray, A: 1, B: 2}))
	for m.Can() {
		does(t, m, "r0")
	}
	if got := m.Tasks()[0]; m.Full() || m.Heap().Count() != api.MaxObjects || got.State != api.TaskOver || got.Trap != api.TrapSize {
		t.Errorf("%+v, %d objects", got, m.Heap().Count())
	}
}

// P11.2: just as many steps as may be, of loopers and workers together, and one more; what is no step is none.
func TestFullOfSteps(t *testing.T) {
	p := around(closure(0, spin), spawn(1, 0), post(2, 0, 1, 0), join(1))
	m := behind(t, p, "r0*4 w2*7 r1*3 t1 l0:0 i0:3")
	for range api.MaxSteps - 14 {
		does(t, m, "w2")
	}
	wantLooks(t, m, looks{can: true, blocked: []int{1}})
	skips(t, m, "r0 r2 w1 w3 t0 i1:1 l0:0")
	does(t, m, "t5 l0:1 l1:0 i0:4 l0:2")
	for _, word := range []string{"w2", "r1"} {
		wantFull(t, m.Copy(), word)
	}
	// What would be done is no matter: the beginning of a task, its end, a fault.
	for what, x := range map[string]api.Instr{"": konst(0, 1), "w2": spawn(0, 0), "w": {Op: api.OpCall, A: 7}, "r0": cancel(7)} {
		m := behind(t, around(closure(0, spin), spawn(1, 0), x), "r0*3 w2")
		for range api.MaxSteps - 4 {
			does(t, m, "w2")
		}
		wantFull(t, m, "r0")
		if t.Failed() {
			t.Fatal(what)
		}
	}
	m = behind(t, around(closure(0, spin), post(1, 0, 1, 0)), "r0*4 r1")
	for range api.MaxSteps - 5 {
		does(t, m, "r1")
	}
	skips(t, m, "r0")
	does(t, m, "t1")
	wantFull(t, m, "r1")
}

// P11.2: the very last step may be an end: then all is over, and the machine is not full.
func TestLastStep(t *testing.T) {
	// It begins, sets four registers, goes round by three steps each time (the last time by two), and ends.
	times := int64(api.MaxSteps-5) / 3
	m := made(t, around(konst(0, 1), konst(1, times), konst(2, 0), konst(2, 0),
		api.Instr{Op: api.OpSub, A: 1, B: 1, C: 0}, api.Instr{Op: api.OpZero, A: 1, N: 7}, jump(4)))
	does(t, m, fmt.Sprintf("r0*%d", api.MaxSteps))
	wantLooks(t, m, looks{ended: true})
	skips(t, m, "r0 r1 w1")
	does(t, m, "t1 i0:0")
	wantLooks(t, m, looks{can: true})
	wantFull(t, m, "r1")
}

// P11.2: an entry that makes a machine full does nothing else: by whichever one it is, the same comes of it.
func TestFullIsFull(t *testing.T) {
	m := behind(t, around(closure(0, idle), logs(0), jump(1)), "r0*2")
	for range api.MaxLog {
		does(t, m, "r0*2")
	}
	filled(t, m, api.MaxTasks)
	var all []*machine.Machine
	for _, word := range []string{"r0", "i0:1", "i0:2", "l0:0"} {
		c := m.Copy()
		wantFull(t, c, word)
		all = append(all, c)
	}
	for i, c := range all {
		if !c.Same(all[0]) || tell(c) != tell(all[0]) {
			t.Errorf("%d: a full one is unlike another one", i)
		}
	}
}

// P11.3: a full machine whose tasks are blocked tells so still.
func TestFullAndBlocked(t *testing.T) {
	m := behind(t, round(2), "r0*8 w2*2 w3*2")
	wantLooks(t, m, looks{blocked: []int{2, 3}})
	p := around(closure(0, spin), spawn(1, 0), join(1))
	m = behind(t, p, "r0*3 w2")
	filled(t, m, api.MaxTasks)
	wantFull(t, m, "i0:0")
	wantLooks(t, m, looks{full: true, blocked: []int{1}})
	if m.Waits(1) != 2 || m.Site(1) != 2 {
		t.Errorf("Waits %d, Site %d", m.Waits(1), m.Site(1))
	}
}

// P11.2: a number that nothing has is skipped: below the first one, one more than the last one.
func TestNumbers(t *testing.T) {
	m := behind(t, around(closure(0, handler), spawn(1, 0), post(1, 0, 1, 0), spawn(1, 0)), "i0:1 l0:0 r0*6")
	if states(m) != "over waits waits waits waits waits" {
		t.Fatal(states(m))
	}
	far := []int{math.MaxInt, math.MinInt, 1 << 31, 1 << 32, 1<<32 + 1, 1<<32 + 4, -1 << 32}
	for _, n := range append(far, -1, 2, 3) {
		skips(t, m, fmt.Sprintf("r%d i%d:0 l%d:0", n, n, n))
	}
	for _, n := range append(far, -1, 4, 5) {
		skips(t, m, fmt.Sprintf("l0:%d l1:%d", n, n))
	}
	// Workers are the tasks 4 and 6.
	for _, n := range append(far, -1, 0, 1, 2, 3, 5, 7, 256) {
		skips(t, m, fmt.Sprintf("w%d", n))
	}
	does(t, m, "w4*4 w6")
	skips(t, m, "w4 r0 w5")
	does(t, m, "w6*3 r1*4 r1*2 r1*4")
	wantLooks(t, m, looks{ended: true})
	skips(t, m, "r0 r1 w4 w6")
}

// P11.2, P11.3, P11.4: of nil, and of a zero one, nothing is there.
func TestNone(t *testing.T) {
	for what, m := range map[string]*machine.Machine{"nil": nil, "a zero one": {}} {
		for _, word := range words(nothing) {
			if err := entry(t, m, word); err != api.ErrNil {
				t.Errorf("%s: %s: %v", what, word, err)
			}
		}
		wantLooks(t, m, looks{})
		if m.Now() != 0 || len(m.Tasks())+len(m.Globals())+len(m.Log())+len(m.Marks(0))+len(m.Marks(-1)) > 0 || m.Heap().Count() != 0 {
			t.Errorf("%s: %s", what, tell(m))
		}
		for _, task := range []int{-1, 0, 1, math.MaxInt, math.MinInt} {
			if m.Site(task) != -1 || m.Waits(task) != 0 {
				t.Errorf("%s: Site %d, Waits %d", what, m.Site(task), m.Waits(task))
			}
		}
		if c := m.Copy(); !c.Same(m) || !m.Same(c) || c.Run(0) != api.ErrNil {
			t.Errorf("%s: a copy is %v", what, c)
		}
		if !m.Same(nil) || !m.Same(&machine.Machine{}) || !(*machine.Machine)(nil).Same(m) || !new(machine.Machine).Same(m) {
			t.Errorf("%s is not the same as none", what)
		}
		if there := made(t, around()); m.Same(there) || there.Same(m) {
			t.Errorf("%s is the same as a machine", what)
		}
	}
}
